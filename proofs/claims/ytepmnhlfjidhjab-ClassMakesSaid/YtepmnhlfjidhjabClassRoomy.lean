/-
  Roomy and Intact at api.Range: the list in a new block, eighty marks behind it.
-/
import Derived.Test.YtepmnhlfjidhjabCopyN
import Derived.Test.YtepmnhlfjidhjabClassOpen
import Derived.Test.YtepmnhlfjidhjabClassFewM
namespace Go.Proofs.Ytepmnhlfjidhjab
open Go.RowKit Go.Mem

theorem flatR_setAt (l : List (Int × Int)) (k : Nat) (a b : Int) : ((flatR l).set (k * 2) (.int .i32 a)).set (k * 2 + 1) (.int .i32 b) = flatR (l.set k (a, b)) := by
  induction l generalizing k with
  | nil => simp [flatR]
  | cons f l ih =>
    cases k with
    | zero => rfl
    | succ k =>
      rw [List.set_cons_succ, flatR_cons, flatR_cons, show (k + 1) * 2 = k * 2 + 1 + 1 by omega, List.set_cons_succ, List.set_cons_succ, List.set_cons_succ, List.set_cons_succ, ih]
/-- a list, k marks behind it, and zeros up to eighty -/
def rowM (l : List (Int × Int)) (m : Int × Int) (k : Nat) : List (Int × Int) := l ++ (List.replicate k m ++ List.replicate (80 - k) (0, 0))
theorem rowM_length (l : List (Int × Int)) (m : Int × Int) (k : Nat) (hk : k ≤ 80) : (rowM l m k).length = l.length + 80 := by simp [rowM]; omega
theorem rowM_at (l : List (Int × Int)) (m : Int × Int) (k : Nat) (hk : k < 80) : (rowM l m k)[l.length + k]? = some (0, 0) := by
  unfold rowM
  rw [List.getElem?_append_right (by simp), List.getElem?_append_right (by simp)]
  simp only [Nat.add_sub_cancel_left, List.length_replicate, Nat.sub_self]
  rw [List.getElem?_replicate, if_pos (by omega)]
theorem rowM_full (l : List (Int × Int)) (m : Int × Int) (k : Nat) (hk : k < 80) : (rowM l m 80)[l.length + k]? = some m := by
  unfold rowM
  rw [List.getElem?_append_right (by simp), List.getElem?_append_left (by simp; omega)]
  simp only [Nat.add_sub_cancel_left]
  rw [List.getElem?_replicate, if_pos (by omega)]
theorem rowM_set (l : List (Int × Int)) (m : Int × Int) (k : Nat) (hk : k < 80) : (rowM l m k).set (l.length + k) m = rowM l m (k + 1) := by
  unfold rowM
  obtain ⟨r, hr⟩ : ∃ r, 80 - k = r + 1 := ⟨79 - k, by omega⟩
  rw [show 80 - (k + 1) = r by omega, hr]
  rw [List.set_append_right _ _ (by simp), List.set_append_right _ _ (by simp)]
  simp only [Nat.add_sub_cancel_left, List.length_replicate, Nat.sub_self]
  rw [List.replicate_succ' (n := k), List.replicate_succ (n := r), List.set_cons_zero, List.append_assoc, List.singleton_append]
theorem flatR_replicate (n : Nat) : (madeCells (Value.agg #[.int .i32 0, Value.int .i32 0]).cells (n * 2)).toList = flatR (List.replicate n (0, 0)) := by
  apply List.ext_getElem
  · simp [madeCells, flatR_length]
  · intro i h1 h2
    have hi : i < n * 2 := by simpa [madeCells] using h1
    have hk : i / 2 < n := by omega
    have ha := flatR_at (List.replicate n ((0 : Int), (0 : Int))) (i / 2) (0, 0) (by rw [List.getElem?_replicate, if_pos hk])
    rcases Nat.mod_two_eq_zero_or_one i with h | h
    · have e : i / 2 * 2 = i := by omega
      rw [e, List.getElem?_eq_getElem h2] at ha
      rw [Option.some.inj ha.1]
      simp [madeCells, Value.cells, h]
    · have e : i / 2 * 2 + 1 = i := by omega
      rw [e, List.getElem?_eq_getElem h2] at ha
      rw [Option.some.inj ha.2]
      simp [madeCells, Value.cells, h]
theorem rowM_zero (l : List (Int × Int)) (m : Int × Int) : splice (flatR (List.replicate (l.length + 80) (0, 0))) 0 (flatR l) = flatR (rowM l m 0) := by
  have e : List.replicate (l.length + 80) ((0 : Int), (0 : Int)) = List.replicate l.length (0, 0) ++ List.replicate 80 (0, 0) := by rw [List.replicate_append_replicate]
  unfold rowM splice
  rw [e, flatR_app, flatR_app]
  simp only [List.take_zero, List.nil_append, Nat.zero_add, List.replicate_zero]
  rw [List.drop_append_of_le_length (by rw [flatR_length, flatR_length]; simp), List.drop_eq_nil_of_le (by rw [flatR_length, flatR_length]; simp), List.nil_append]

def RoomEnds (w : World) (l : List (Int × Int)) (m : Int × Int) (e : Ending) (w' : World) : Prop := e = .returned (.slice (some ⟨w.heap.size + 1, 0, none⟩) (l.length + 80) (l.length + 80)) ∧ Below w.heap.size w w' ∧ Blk w' (w.heap.size + 1) 61 (flatR (rowM l m 80))
set_option maxRecDepth 100000 in
set_option maxHeartbeats 1600000 in
theorem roomyR_calls (A : Option Addr) (n cap : Nat) (l : List (Int × Int)) (m1 m2 : Int) (w : World) (hl : l.length = n) (hn : n ≤ 100000) (hs : Sl w A (flatR l)) :
    Calls Try.prog 37 #[.slice A n cap, .agg #[.int .i32 m1, .int .i32 m2]] w (RoomEnds w l (m1, m2)) := by
  subst hl
  obtain ⟨i0, hi, hz0, hz1, hz2⟩ := info_parts infoR
  have hmk : ∀ u : World, (Instr.makeSlice 58 (.int .i64 ((l.length : Int) + 80)) (.int .i64 ((l.length : Int) + 80))).run Try.prog u =
      .ok (.slice (some ⟨u.heap.size, 0, none⟩) (l.length + 80) (l.length + 80)) (u.alloc (.cells (madeCells (Value.agg #[.int .i32 0, Value.int .i32 0]).cells ((l.length + 80) * 2)) 61)) := fun u => by
    have h := run_make (P := Try.prog) u 58 61 i0 (.agg #[.int .i32 0, Value.int .i32 0]) Try.underlying58 hi hz0 .i64 .i64 ((l.length : Int) + 80) ((l.length : Int) + 80) (by omega) (Int.le_refl _) (by rw [hz2]; omega) (by omega)
    have e : ((l.length : Int) + 80).toNat = l.length + 80 := by omega
    rw [e, hz1] at h
    exact h
  have HMK := Lib.hid (flatR_replicate (l.length + 80))
  generalize (madeCells (Value.agg #[.int .i32 0, Value.int .i32 0]).cells ((l.length + 80) * 2)) = M at hmk HMK
  have hsz : (Try.prog.info? 61).map (·.size) = some 2 := by rw [hi]; simp [hz1]
  go_enter Try.func37, Try.ntmps37
  go_wp2_with (with_reducible refine wpList_copy_spliceN (o := ⟨some 13, _, _, _, _, _⟩) ?g1 (.tmp 11) (.tmp 12) 58 58 ?g2 61 2 Try.underlying58 hsz (some ⟨w.heap.size + 1, 0, none⟩) A (l.length + 80) (l.length + 80) l.length cap ?g3 ?g4 (w.heap.size + 1) 0 M.toList 61 ?g5 (flatR l) ?g6 ?g12 ?g7 ?g13 ?g8 ?g9 (w.heap.size + 1) (w.alloc (.cells #[.int .i32 m1, .int .i32 m2] 61)) ?g10 ?g11 ?_)
  case g1 => rfl
  case g2 => rfl
  case g3 => rfl
  case g4 => rfl
  case g5 =>
    have h := Blk.new (w.alloc (.cells #[.int .i32 m1, .int .i32 m2] 61)) 61 M
    rw [show (w.alloc (.cells #[.int .i32 m1, .int .i32 m2] 61)).heap.size = w.heap.size + 1 by simp] at h
    exact h
  case g6 => rw [flatR_length]; congr 1; exact (Nat.min_eq_left (by omega)).symm
  case g7 =>
    intro hpos
    obtain ⟨b, o, rfl, _⟩ := hs.at_ (k := 0) (by simpa using hpos)
    refine ⟨_, rfl, fun j v hv => ?_⟩
    obtain ⟨b', o', e, hc⟩ := ((hs.alloc (.cells #[.int .i32 m1, .int .i32 m2] 61)).alloc (.cells M 61)) j v hv
    obtain ⟨rfl, rfl⟩ : b = b' ∧ o = o' := by injection e with e; injection e with e1 e2; exact ⟨e1, e2⟩
    rw [Addr.add_lit]; exact hc
  case g8 => rw [HMK.out, flatR_length, flatR_length]; simp; omega
  case g9 => exact flatR_one l
  case g10 => exact (Below.refl _ _).alloc (by simp) _
  case g11 => exact Nat.le_refl _
  case g12 => intro h; have : l.length = 0 := by have := Nat.min_eq_left (show l.length ≤ l.length + 80 by omega); rw [← this]; exact h
              rw [List.eq_nil_of_length_eq_zero this]; rfl
  case g13 => decide
  intro w2 HG hB
  have HB : Hid (Blk w2 (w.heap.size + 1) 61 (flatR (rowM l (m1, m2) 0))) := by
    have h := HG.out
    rw [HMK.out, rowM_zero l (m1, m2)] at h
    exact h
  have hbx := (Blk.new w 61 #[.int .i32 m1, .int .i32 m2]).below hB (by omega)
  have hB0 : Below w.heap.size w w2 := ((Below.refl w.heap.size w).alloc (Nat.le_refl _) _).trans (hB.mono (by omega))
  have HX := Lib.hid hbx
  clear HG HMK hmk hs hB hbx
  go_wp2_with fail
  go_loopw [6] (fun i wr => ∃ k : Nat, k ≤ 80 ∧ i = .int .i64 ((l.length + k : Nat) : Int) ∧ Hid (Blk wr (w.heap.size + 1) 61 (flatR (rowM l (m1, m2) k))) ∧ Hid (Blk wr w.heap.size 61 [.int .i32 m1, .int .i32 m2]) ∧ Below w.heap.size w wr) (fun i _ => l.length + 80 - (intOf i).toNat)
  case atStart => exact ⟨0, by omega, rfl, HB, HX, hB0⟩
  case round =>
    clear hB0 HB HX
    obtain ⟨k, hk, rfl, HK, HX, hBr⟩ := hrel
    by_cases hlt : k < 80
    · have hat := flatR_at _ _ _ (rowM_at l (m1, m2) k hlt)
      have c0 := HK.out.cell ((l.length + k) * 2)
      have c1 := HK.out.cell ((l.length + k) * 2 + 1)
      rw [hat.1] at c0
      rw [hat.2] at c1
      have f0 := HK.out.frozen ((l.length + k) * 2)
      have f1 := HK.out.frozen ((l.length + k) * 2 + 1)
      have x0 := HX.out.cell 0
      have x1 := HX.out.cell 1
      simp only [List.getElem?_cons_zero, List.getElem?_cons_succ] at x0 x1
      have HS : Hid (Blk ((wr.setCell ⟨w.heap.size + 1, (l.length + k) * 2, none⟩ (.int .i32 m1)).setCell ⟨w.heap.size + 1, (l.length + k) * 2 + 1, none⟩ (.int .i32 m2)) (w.heap.size + 1) 61 (flatR (rowM l (m1, m2) (k + 1)))) := (show Blk _ _ _ _ from by
        have h := (HK.out.set_ ((l.length + k) * 2) (.int .i32 m1)).set_ ((l.length + k) * 2 + 1) (.int .i32 m2)
        rw [flatR_setAt, rowM_set l (m1, m2) k hlt] at h
        exact h)
      have HX2 := Lib.hid ((HX.out.far (p := ⟨w.heap.size + 1, (l.length + k) * 2, none⟩) (Nat.ne_of_lt (Nat.lt_succ_self _)) (.int .i32 m1)).far (p := ⟨w.heap.size + 1, (l.length + k) * 2 + 1, none⟩) (Nat.ne_of_lt (Nat.lt_succ_self _)) (.int .i32 m2))
      have hBs : Below w.heap.size w ((wr.setCell ⟨w.heap.size + 1, (l.length + k) * 2, none⟩ (.int .i32 m1)).setCell ⟨w.heap.size + 1, (l.length + k) * 2 + 1, none⟩ (.int .i32 m2)) := (hBr.setCell (Nat.le_succ _) _).setCell (Nat.le_succ _) _
      clear hat HX HK
      go_wp2_with fail
      go_roundw
      case rel => exact ⟨k + 1, by omega, by go_num, HS, HX2, hBs⟩
      case measure => simp [intOf]; omega
    · obtain rfl : k = 80 := by omega
      go_wp2_with fail
      go_ret
      exact ⟨rfl, hBr, HK.out⟩

def IntactSays (w : World) (e : Ending) (w' : World) : Prop := e = .returned (.bool true) ∧ Below w.heap.size w w'
set_option maxRecDepth 100000 in
set_option maxHeartbeats 1600000 in
theorem intactR_calls (A B : Option Addr) (n nn c1 c2 : Nat) (l : List (Int × Int)) (m1 m2 : Int) (w : World) (hl : l.length = n) (hnn : nn = n + 80) (hn : n ≤ 100000) (hA : Sl w A (flatR (rowM l (m1, m2) 80))) (hB : Sl w B (flatR l)) (hc : nn ≤ c1) :
    Calls Try.prog 41 #[.slice A nn c1, .slice B n c2, .agg #[.int .i32 m1, .int .i32 m2]] w (IntactSays w) := by
  subst hl hnn
  have hbel := (Below.refl w.heap.size w).alloc (Nat.le_refl _) (.cells #[.int .i32 m1, .int .i32 m2] 61)
  have hh : Sl w A (flatR l) := by
    have h := hA.take (l.length * 2)
    unfold rowM at h
    rw [flatR_app, List.take_append_of_le_length (by rw [flatR_length]; exact Nat.le_refl _), List.take_of_length_le (by rw [flatR_length]; exact Nat.le_refl _)] at h
    exact h
  have HS := Lib.hid (sameR_true A B l.length l.length c1 c2 l _ rfl rfl (by omega) (hh.below hbel) (hB.below hbel))
  have HA := Lib.hid (hA.below hbel)
  have HX := Lib.hid (Blk.new w 61 #[.int .i32 m1, .int .i32 m2])
  have HB := Lib.hid hbel
  have hb0 : ((l.length : Int) + 80 != (l.length : Int) + 80) = false := by simp
  clear hh hA hB hbel
  go_enter Try.func41, Try.ntmps41
  go_wp2_with fail
  refine HS.out.mono ?_
  rintro e w' ⟨rfl, q, rfl⟩
  clear HS
  generalize w.alloc (.cells #[.int .i32 m1, .int .i32 m2] 61) = w1 at *
  go_wp2_with fail
  go_loopw [7] (fun i wr => ∃ k : Nat, k ≤ 80 ∧ i = .int .i64 ((l.length + k : Nat) : Int) ∧ ∃ q, wr = w1.drewN q) (fun i _ => l.length + 80 - (intOf i).toNat)
  case atStart => exact ⟨0, by omega, rfl, _, rfl⟩
  case round =>
    obtain ⟨k, hk, rfl, q, rfl⟩ := hrel
    by_cases hlt : k < 80
    · obtain ⟨b, o, rfl, ca, cb⟩ := Sl.range HA.out (rowM_full l (m1, m2) k hlt)
      have x0 := HX.out.cell 0
      have x1 := HX.out.cell 1
      simp only [List.getElem?_cons_zero, List.getElem?_cons_succ] at x0 x1
      have e1 : (m1 == m1) = true := beq_iff_eq.2 rfl
      have e2 : (m2 == m2) = true := beq_iff_eq.2 rfl
      have i0 : (0 : Int) ≤ ((l.length + k : Nat) : Int) := by omega
      have i1 : ((l.length + k : Nat) : Int) < ((l.length + 80 : Nat) : Int) := by omega
      go_wp2_with fail
      go_quiet (fail)
      go_wp2_with fail
      go_roundw
      case rel => exact ⟨k + 1, by omega, by go_num, _, rfl⟩
      case measure => simp [intOf]; omega
    · obtain rfl : k = 80 := by omega
      have hf := below_drewN HB.out q
      clear HX HA HB
      go_wp2_with fail
      go_ret
      exact ⟨rfl, hf⟩
end Go.Proofs.Ytepmnhlfjidhjab
