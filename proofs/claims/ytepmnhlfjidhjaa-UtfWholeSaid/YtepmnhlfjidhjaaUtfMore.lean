/-
  spoorref7.Begun; the decoder's End.
-/
import Derived.Test.YtepmnhlfjidhjaaUtfByte
import Derived.Test.YtepmnhlfjidhjaaUtfFits
namespace Go.Proofs.Ytepmnhlfjidhjaa
open Go.RowKit Go.Mem

def begunU (bs : List UInt8) : Bool := decide (0 < bs.length) && decide (startU bs = 0)
set_option maxRecDepth 100000 in
set_option maxHeartbeats 1600000 in
theorem begun_calls (bs : List UInt8) (A : Option Addr) (n c : Nat) (w : World) (hl : bs.length = n) (hmax : n ≤ 9223372036854775807) (hs : Sl w A (bs.map B8)) :
    Calls Try.prog 25 #[.slice A n c] w fun e w' => e = .returned (.bool (begunU bs)) ∧ ∃ q, w' = w.drewN q := by
  subst hl
  have HFT := Lib.hid (fits_calls bs A bs.length c w rfl hmax hs)
  by_cases hpos : 0 < bs.length
  · rcases startU_cases bs hpos with h | ⟨h, h3⟩ | ⟨n, h, h1, h4, hle, hn⟩
    · rw [fitsU_broken hpos h] at HFT
      have hv : begunU bs = false := by unfold begunU; rw [h]; simp
      rw [hv]
      clear hv h
      go_enter Try.func25, Try.ntmps25
      go_wp2_with fail
      refine HFT.out.mono ?_
      rintro e w1 ⟨rfl, q, rfl⟩
      go_wp2_with fail
      go_ret
      exact ⟨rfl, _, rfl⟩
    · have hlt := begun_lt hpos h
      rw [fitsU_begun hpos h] at HFT
      generalize (shapeU (bs[0]'hpos).toNat).1 = N at HFT hlt
      have hv : begunU bs = true := by unfold begunU; rw [h]; simpa using hpos
      rw [hv]
      have hb0 : decide ((0 : Int) < (bs.length : Int)) = true := decide_eq_true (by omega)
      have hb1 : decide (bs.length < N) = true := decide_eq_true hlt
      have hb2 : ((bs.length : Int) == (bs.length : Int)) = true := beq_iff_eq.2 rfl
      clear hv h
      go_enter Try.func25, Try.ntmps25
      go_wp2_with fail
      refine HFT.out.mono ?_
      rintro e w1 ⟨rfl, q, rfl⟩
      go_wp2_with fail
      go_ret
      exact ⟨rfl, _, rfl⟩
    · rw [fitsU_whole hpos h h1 hn] at HFT
      have hv : begunU bs = false := by unfold begunU; rw [h]; simp; omega
      rw [hv]
      have hb0 : decide ((0 : Int) < (n : Int)) = true := decide_eq_true (by omega)
      have hb1 : decide (n < n) = false := decide_eq_false (by omega)
      clear hv h hn
      go_enter Try.func25, Try.ntmps25
      go_wp2_with fail
      refine HFT.out.mono ?_
      rintro e w1 ⟨rfl, q, rfl⟩
      go_wp2_with fail
      go_ret
      exact ⟨rfl, _, rfl⟩
  · have he : bs = [] := List.eq_nil_of_length_eq_zero (by omega)
    subst he
    have hv : begunU [] = false := rfl
    rw [hv]
    rw [show fitsU [] = (0, 0) from rfl] at HFT
    clear hv
    go_enter Try.func25, Try.ntmps25
    go_wp2_with fail
    refine HFT.out.mono ?_
    rintro e w1 ⟨rfl, q, rfl⟩
    go_wp2_with fail
    go_ret
    exact ⟨rfl, _, rfl⟩

/-- End lets go of what is held: only p may have turned -/
def EndEnds (w : World) (B p k : Nat) (e : Ending) (w' : World) : Prop := ∃ (D : Option Addr) (cD : Nat), e = .returned (.slice D k cD) ∧ Dec w' B p none 0 0 [] ∧ OwnB w' w.heap.size 26 2 D k cD (flatG (List.replicate k (65533, 1))) ∧ w.grownBy w' (some p)
set_option maxRecDepth 100000 in
set_option maxHeartbeats 1600000 in
theorem end_calls (B p n c : Nat) (L : Option Addr) (h : List UInt8) (w : World) (d : Dec w B p L n c h) (hn : n ≤ 1000000) :
    Calls Try.prog 21 #[.pointer (some ⟨p, 0, none⟩)] w (EndEnds w B p n) := by
  have c0 := d.obj.cell 0
  simp only [List.getElem?_cons_zero] at c0
  obtain ⟨j0, hj, hy0, hy1, hy2⟩ := info_parts infoGot
  have HP := Lib.hid d.obj
  have hlow := d.low
  have hpw : p < w.heap.size := d.obj.lt
  clear d
  go_enter Try.func21, Try.ntmps21
  go_wp2_with fail
  go_loopw [3, 9] (fun l k wr => ∃ (D : Option Addr) (j cD : Nat), k = .int .i64 j ∧ l = .slice D j cD ∧ j ≤ n ∧ Hid (OwnB wr w.heap.size 26 2 D j cD (flatG (List.replicate j (65533, 1)))) ∧ Below w.heap.size w wr) (fun _ k _ => n - (intOf k).toNat)
  case atStart => exact ⟨none, 0, 0, rfl, rfl, Nat.zero_le _, (show OwnB _ _ _ _ _ _ _ _ from OwnB.nil _ _ _ _), Below.refl _ _⟩
  case round =>
    obtain ⟨D, j, cD, rfl, rfl, hjn, HO, hB⟩ := hrel
    have hBw := hB.size
    by_cases hlt : j < n
    · go_wp2_with (at_builtin; refine wpList_append_ownK (o := ⟨some 14, _, _, _, _, _⟩) rfl (.tmp 11) (.tmp 13) 22 22 rfl 26 j0 (.agg #[.int .i32 0, Value.int .i64 0]) 2 16 Try.underlying22 hj hy0 hy1 hy2 rfl w.heap.size D j cD (flatG (List.replicate j (65533, 1))) rfl (HO.out.alloc _) (.slice (some ⟨wr.heap.size, 0, none⟩) 1 1) rfl 1 [.int .i32 65533, .int .i64 1] (srcOfSl Try.underlying22 rfl (by omega) (Sl.new rfl rfl) (fun e => by cases e) (by simp [Value.oneCell'])) (by omega) (by omega) w (hB.alloc hBw _) (by simp; omega) ?_)
      intro w3 D3 c3 HO3 HK3 hb3 hsz3
      have HO4 : Hid (OwnB w3 w.heap.size 26 2 D3 (j + 1) c3 (flatG (List.replicate (j + 1) (65533, 1)))) := (show OwnB _ _ _ _ _ _ _ _ by rw [List.replicate_succ', flatG_app]; exact HO3.out)
      clear HO3 HK3 HO hsz3 hB hBw
      go_wp2_with fail
      go_roundw
      case rel => exact ⟨D3, j + 1, c3, by go_num, rfl, by omega, HO4, hb3⟩
      case measure => simp [intOf]; omega
    · obtain rfl : j = n := by omega
      have hob := HP.out.below hB hpw
      have e1 := hob.cell 0
      have f1 := hob.frozen 0
      simp only [List.getElem?_cons_zero] at e1
      have HFin : Hid (EndEnds w B p j (.returned (.slice D j cD)) (wr.setCell ⟨p, 0, none⟩ (.slice none 0 0))) := (show EndEnds _ _ _ _ _ _ from ⟨D, cD, rfl, ⟨hob.set_ 0 _, OwnB.nil _ _ _ _, rfl, hlow⟩, HO.out.only hob (by decide) (only_set (only_refl wr p) 0 _), only_trans (only_below (only_refl w p) hB) (only_set (only_refl wr p) 0 _)⟩)
      clear HO hB hob
      go_wp2_with fail
      go_ret
      exact HFin.out
end Go.Proofs.Ytepmnhlfjidhjaa
