/-
  WireCut, for every item that is bounded.
-/
import Derived.Test.YtjmiejcgahajfaaWireCut
import Derived.Test.YtjmiejcgahajfaaItem
namespace Go.Proofs.Ytjmiejcgahajfaa
open Go.RowKit Go.Mem

theorem wireCut_calls (k x m : Int) (s : ByteArray) (f : Bool) (L : Option Addr) (ln lc : Nat) (zs : List Int) (at_ : Int) (w : World) (hok : ItOk w k x m s L ln lc zs) (hsm : s.size + lc ≤ 1048576) (hat : inI64 at_) :
    Calls Try.prog 7 #[itVal k x m s f L ln lc, .int .i64 at_] w fun e w' => e = .returned (.bool true) ∧ Below w.heap.size w w' := by
  have hx := hok.n
  have hx' : -9223372036854775808 ≤ x ∧ x ≤ 9223372036854775807 := hx
  have hlc := hok.le
  by_cases h1 : k = 1
  · subst h1
    have hlen := Wire.num_length x.toNat
    have hnb := Wire.nb_le x.toNat (by omega)
    refine wireCutRead_calls 1 x m s f L ln lc at_ (Wire.num x.toNat) w (by omega) (by omega) (by decide) hat (fun W hW => putNum_calls none 0 0 [] 1 x m s f L ln lc W rfl hx' Sl.nil (by decide) (.inl rfl)) (fun W p j hj r => ?_)
    have h := backNum_calls p _ 0 0 x m s f L ln lc W r hx
    rw [nu_cut x.toNat j (by omega) hj] at h
    exact h.mono fun e w' ⟨he, hr, ht⟩ => ⟨_, he, hr, ht⟩
  by_cases h4 : k = 4
  · subst h4
    have hlen := Wire.num_length x.toNat
    have hnb := Wire.nb_le x.toNat (by omega)
    refine wireCutRead_calls 4 x m s f L ln lc at_ (Wire.num x.toNat) w (by omega) (by omega) (by decide) hat (fun W hW => putNum_calls none 0 0 [] 4 x m s f L ln lc W rfl hx' Sl.nil (by decide) (.inr rfl)) (fun W p j hj r => ?_)
    have h := backUpto_calls p _ 0 0 x m s f L ln lc W r hx
    rw [upto_cut x.toNat j _ (by omega) hj] at h
    exact h.mono fun e w' ⟨he, hr, ht⟩ => ⟨_, he, hr, ht⟩
  by_cases h2 : k = 2
  · subst h2
    have hlen := Wire.num_length s.size
    have hnb := Wire.nb_le s.size (by omega)
    have hsl : s.data.toList.length = s.size := Array.length_toList
    refine wireCutRead_calls 2 x m s f L ln lc at_ (Wire.num s.size ++ s.data.toList) w (by rw [List.length_append]; omega) (by rw [List.length_append]; omega) (by decide) hat (fun W hW => putText_calls none 0 0 [] 2 x m s f L ln lc W rfl Sl.nil (by omega) rfl) (fun W p j hj r => ?_)
    have h := backText_calls p _ 0 0 x m s f L ln lc W r (by omega)
    rw [← hsl] at hj h
    rw [tx_cut s.data.toList j (by omega) hj] at h
    rw [← hsl]
    exact h.mono fun e w' ⟨he, hr, ht⟩ => ⟨_, he, hr, ht⟩
  by_cases h3 : k = 3
  · subst h3
    have hlen := Wire.num_length (if f then 1 else 0)
    have hnb := Wire.nb_le (if f then 1 else 0) (by cases f <;> decide)
    refine wireCutRead_calls 3 x m s f L ln lc at_ (Wire.num (if f then 1 else 0)) w (by omega) (by omega) (by decide) hat (fun W hW => putFlag_calls none 0 0 [] 3 x m s f L ln lc W rfl Sl.nil (by decide) rfl) (fun W p j hj r => ?_)
    have h := backFlag_calls p _ 0 0 x m s f L ln lc W r
    rw [fl_cut _ j (by cases f <;> decide) hj] at h
    exact h.mono fun e w' ⟨he, hr, ht⟩ => ⟨_, he, hr, ht⟩
  by_cases h5 : k = 5
  · subst h5
    have hel := encs_le zs hok.ints
    have hzl := hok.len
    have hlen := Wire.num_length ln
    have hnb := Wire.nb_le ln (by omega)
    exact wireCutSkip_calls 5 x m s f L ln lc at_ (Wire.num ln ++ encs zs) w (by rw [List.length_append]; omega) (.inl rfl) (fun W hW => putList_calls none 0 0 [] x m s f L ln lc zs W rfl Sl.nil hzl hok.ints (hok.sl.below (hW.mono (Nat.le_refl _))) (by omega))
  · exact wireCutSkip_calls k x m s f L ln lc at_ [] w (by decide) (.inr ⟨by omega, rfl⟩) (fun W hW => putNone_calls none 0 0 [] k x m s f L ln lc W rfl Sl.nil (by decide) ⟨h1, h2, h3, h4, h5⟩)
end Go.Proofs.Ytjmiejcgahajfaa
