/-
  The contract of wire.List at int, with the law's puts.
-/
import Derived.Test.YtepmnhlfjidhjaaWireEnc
namespace Go.Proofs.Ytepmnhlfjidhjaa
open Go.RowKit Go.Mem

def I64 (x : Int) : Value := .int .i64 x
/-- a list's bytes: its length, then each -/
def encs (zs : List Int) : List UInt8 := zs.flatMap fun z => Wire.num z.toNat
def inI64 (x : Int) : Prop := -9223372036854775808 ≤ x ∧ x ≤ 9223372036854775807
theorem encs_le (zs : List Int) : (∀ z ∈ zs, inI64 z) → (encs zs).length ≤ 9 * zs.length := by
  induction zs with
  | nil => intro _; simp [encs]
  | cons z zs ih =>
    intro h
    have h1 := ih (fun y hy => h y (List.mem_cons_of_mem _ hy))
    have h2 := h z List.mem_cons_self
    have h3 := Wire.nb_le z.toNat (by unfold inI64 at h2; omega)
    simp only [encs, List.flatMap_cons, List.length_append, Wire.num_length, List.length_cons] at *
    omega
theorem encs_snoc (zs : List Int) (z : Int) : encs (zs ++ [z]) = encs zs ++ Wire.num z.toNat := by simp [encs]

set_option maxHeartbeats 1600000 in
theorem list_calls (A L : Option Addr) (n m cap c2 : Nat) (bs : List UInt8) (zs : List Int) (w : World) (hl : bs.length = n) (hm : zs.length = m) (hz : ∀ z ∈ zs, inI64 z) (hs : Sl w A (bs.map B8)) (hL : Sl w L (zs.map I64)) (hn : n + 9 * (m + 1) ≤ 70368744177664) :
    Calls Try.prog 107 #[.slice A n cap, .slice L m c2, .func (.func 108) #[] #[]] w (FreshB w (bs ++ (Wire.num m ++ encs zs))) := by
  subst hl hm
  obtain ⟨i0, hi, hz0, hz1, hz2⟩ := info_parts infoU8
  have HF := Lib.hid (num_calls A bs.length cap bs zs.length w rfl (by omega) hs (by omega))
  go_enter Try.func107, Try.ntmps107
  go_wp2_with fail
  refine HF.out.mono ?_
  rintro e w1 ⟨D1, N1, c1, rfl, ho1, hb1⟩
  have HO1 := Lib.hid ho1
  clear ho1
  go_wp2_with fail
  go_loopw [7, 9, 16] (fun v x i wr => ∃ (k : Nat) (D : Option Addr) (N c : Nat), k ≤ zs.length ∧ i = .int .i64 k ∧ v = .slice D N c ∧ Hid (OwnB wr w.heap.size 5 1 D N c ((bs ++ (Wire.num zs.length ++ encs (zs.take k))).map B8)) ∧ Below w.heap.size w wr) (fun _ _ i _ => zs.length - (intOf i).toNat)
  case atStart => exact ⟨0, D1, N1, c1, Nat.zero_le _, rfl, rfl, (by have h := HO1.out; show OwnB _ _ _ _ _ _ _ _; simpa [encs] using h), hb1⟩
  case round =>
    obtain ⟨k, D, N, c, hk, rfl, rfl, HO, hb⟩ := hrel
    clear hb1 HO1
    have hN : N ≤ 70368744177664 := by
      have h1 := (OwnB.bytes HO.out)
      have h2 := encs_le (zs.take k) (fun z hz' => hz z (List.mem_of_mem_take hz'))
      have h3 := Wire.nb_le zs.length (by omega)
      simp only [List.length_append, Wire.num_length, List.length_take] at h1 h2
      omega
    by_cases hlt : k < zs.length
    · obtain ⟨b, o, rfl, hca⟩ := (hL.below hb).at_ (k := k) (by simpa using hlt)
      have hzk := hz _ (List.getElem_mem hlt)
      have HZ : Hid (encs (zs.take (k + 1)) = encs (zs.take k) ++ Wire.num zs[k].toNat) := by
        show _ = _
        rw [List.take_succ_eq_append_getElem hlt, encs_snoc]
      rw [List.getElem_map] at hca
      generalize zs[k] = z at hca hzk HZ
      unfold I64 at hca
      have HP := Lib.hid (puts_calls D N c (bs ++ (Wire.num zs.length ++ encs (zs.take k))) z wr (OwnB.bytes HO.out) hzk HO.out.sl (by omega))
      clear hzk
      go_wp2_with fail
      refine HP.out.mono ?_
      rintro e w2 ⟨D2, N2, c2', rfl, ho2, hb2⟩
      have HO2 : Hid (OwnB w2 w.heap.size 5 1 D2 N2 c2' ((bs ++ (Wire.num zs.length ++ encs (zs.take (k + 1)))).map B8)) := by
        have h := ho2.mono hb.size
        rw [HZ.out]
        show OwnB _ _ _ _ _ _ _ _
        simpa using h
      have hb3 := hb.trans (hb2.mono hb.size)
      clear ho2 HO hb hb2 hca HP HZ
      go_wp2_with fail
      go_roundw
      case rel => exact ⟨k + 1, D2, N2, c2', by omega, by go_num, rfl, HO2, hb3⟩
      case measure => simp [intOf]; omega
    · have hfull : zs.take k = zs := List.take_of_length_le (by omega)
      rw [hfull] at HO
      clear hfull
      have hbz := hb.size
      go_wp2_with (at_builtin; refine wpList_append_ownB (o := ⟨some 26, _, _, _, _, _⟩) rfl (.const (.slice none 0 0)) (.tmp 25) 24 24 rfl 5 i0 (.int .u8 0) 1 1 Try.underlying24 hi hz0 hz1 hz2 rfl w.heap.size none 0 0 [] rfl (OwnB.nil _ _ _ _) (.slice D N c) rfl N ((bs ++ (Wire.num zs.length ++ encs zs)).map B8) (srcSl Try.underlying24 (by rw [List.length_map]; exact OwnB.bytes HO.out) HO.out.sl (bytes_one _)) (by omega) (by omega) w hb hbz ?_)
      intro w3 D3 c3 HO3 hb3 _
      clear hbz
      go_wp2_with fail
      go_ret
      exact ⟨D3, _, c3, rfl, by have h := HO3.out; simpa using h, hb3⟩
end Go.Proofs.Ytepmnhlfjidhjaa
