/-
  The contract of yard's free: the least number that no file has.
-/
import Derived.Test.YtbmgeomndfodpaaYardRight
namespace Go.Proofs.Ytbmgeomndfodpaa
open Go.RowKit Go.Mem Go.Proofs

/-- the number that free comes to, behind these keys -/
def freeFrom (a : Int) (ks : List Int) : Int := ks.foldl (fun a k => if k = a then a + 1 else a) a
theorem freeFrom_snoc (a : Int) (ks : List Int) (k : Int) : freeFrom a (ks ++ [k]) = if k = freeFrom a ks then freeFrom a ks + 1 else freeFrom a ks := by
  unfold freeFrom; rw [List.foldl_append]; rfl
theorem freeFrom_le (ks : List Int) (a : Int) : a ≤ freeFrom a ks ∧ freeFrom a ks ≤ a + ks.length := by
  induction ks generalizing a with
  | nil => simp [freeFrom]
  | cons k ks ih =>
    have h : freeFrom a (k :: ks) = freeFrom (if k = a then a + 1 else a) ks := rfl
    rw [h]
    have := ih (if k = a then a + 1 else a)
    rw [List.length_cons]
    split at this <;> split <;> first | omega | contradiction

set_option maxRecDepth 100000 in
set_option maxHeartbeats 1600000 in
theorem free_calls (B y pF pT : Nat) (DK DV : Option Addr) (ks : List Int) (vs : List Fl) (w : World) (hy : Blk w y 95 [.pointer (some ⟨pF, 0, none⟩), .pointer (some ⟨pT, 0, none⟩)]) (h : TbIF w B pF DK DV ks vs) (hn : ks.length ≤ 1000000) :
    Calls Try.prog 53 #[.pointer (some ⟨y, 0, none⟩)] w fun e w' => e = .returned (.int .i64 (freeFrom 1 ks)) ∧ Below w.heap.size w w' := by
  have HK := Lib.hid (keysIF_calls B pF DK DV ks vs w h hn)
  have c0 := hy.cell 0
  simp only [List.getElem?_cons_zero] at c0
  clear h hy
  go_enter Try.func53, Try.ntmps53
  go_wp2_with fail
  refine HK.out.mono ?_
  rintro e w1 ⟨D, c, rfl, o1, b1⟩
  have HO := Lib.hid o1
  have HB := Lib.hid b1
  have HC := Lib.hid hn
  obtain ⟨n, hnl⟩ : ∃ n, n = ks.length := ⟨_, rfl⟩
  have HL := Lib.hid hnl
  rw [← hnl] at hn ⊢
  clear o1 b1 HK c0 hnl
  go_wp2_with fail
  go_loopw [3, 5, 12] (fun a _ i wr => ∃ (k : Nat), k ≤ n ∧ i = .int .i64 k ∧ a = .int .i64 (freeFrom 1 (ks.take k)) ∧ wr = w1) (fun _ _ i _ => n - (intOf i).toNat)
  case atStart => exact ⟨0, Nat.zero_le _, rfl, rfl, rfl⟩
  case round =>
    obtain ⟨k, hk, rfl, rfl, rfl⟩ := hrel
    by_cases hlt : k < n
    · have i0 : (0 : Int) ≤ (k : Int) := by omega
      have i1 : (k : Int) < (n : Int) := by omega
      have hkl : k < ks.length := by rw [← HL.out]; exact hlt
      have hw1 : IntKind.i64.wrap ((k : Int) + 1) = (k : Int) + 1 := by rw [IntKind.wrap_i64]; omega
      obtain ⟨b, o, rfl, hc⟩ := HO.out.sl.at_ (k := k) (by simpa using hkl)
      rw [List.getElem_map] at hc
      have HN := Lib.hid (show freeFrom 1 (ks.take (k + 1)) = if ks[k] = freeFrom 1 (ks.take k) then freeFrom 1 (ks.take k) + 1 else freeFrom 1 (ks.take k) from by rw [List.take_add_one, List.getElem?_eq_getElem hkl]; exact freeFrom_snoc 1 (ks.take k) ks[k])
      have hfl := freeFrom_le (ks.take k) 1
      rw [List.length_take] at hfl
      generalize ks[k] = x at *
      generalize freeFrom 1 (ks.take k) = a at *
      have hw2 : IntKind.i64.wrap (a + 1) = a + 1 := by rw [IntKind.wrap_i64]; omega
      clear hfl
      by_cases hx : x = a
      · subst hx
        have e1 := HN.out
        rw [if_pos rfl] at e1
        have HE := Lib.hid e1
        clear HN e1
        go_wp2_with fail
        exact ⟨⟨k + 1, hlt, rfl, by rw [HE.out], by first | trivial | rfl⟩, by simp [intOf]; omega⟩
      · have e1 := HN.out
        rw [if_neg hx] at e1
        have HE := Lib.hid e1
        clear HN e1
        go_wp2_with fail
        exact ⟨⟨k + 1, hlt, rfl, by rw [HE.out], by first | trivial | rfl⟩, by simp [intOf]; omega⟩
    · have i1 : ¬ ((k : Int) < (n : Int)) := by omega
      have e1 : ks.take k = ks := List.take_of_length_le (by rw [← HL.out]; omega)
      rw [e1]
      go_wp2_with fail
      go_ret
      exact ⟨rfl, HB.out⟩
end Go.Proofs.Ytbmgeomndfodpaa
