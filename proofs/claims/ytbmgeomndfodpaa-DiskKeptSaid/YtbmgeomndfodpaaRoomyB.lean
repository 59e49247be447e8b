/-
  The contract of spoorbook.Roomy at bytes: the list in a new block, eighty marks behind it.
-/
import Derived.Test.YtbmgeomndfodpaaMem
import Derived.Laws.CopyOwn
namespace Go.Proofs.Ytbmgeomndfodpaa
open Go.RowKit Go.Mem

theorem infoB : (Try.prog.info? 5).map (fun i => (i.zero, i.size, i.bytes)) = some (some (.int .u8 0), 1, 1) := by kernel_rfl
def rowB (bs : List UInt8) (m : UInt8) (k : Nat) : List Value := bs.map B8 ++ (List.replicate k (B8 m) ++ List.replicate (80 - k) (.int .u8 0))
theorem rowB_length (bs : List UInt8) (m : UInt8) (k : Nat) (hk : k ≤ 80) : (rowB bs m k).length = bs.length + 80 := by simp [rowB]; omega
theorem rowB_zero (bs : List UInt8) (m : UInt8) : splice (madeCells (Value.int .u8 0).cells ((bs.length + 80) * 1)).toList 0 (bs.map B8) = rowB bs m 0 := by
  have h : ∀ n, (madeCells (Value.int .u8 0).cells n).toList = List.replicate n (.int .u8 0) := fun n => by
    apply List.ext_getElem
    · simp [madeCells]
    · intro i h1 h2; simp [madeCells, Value.cells, Nat.mod_one]
  rw [h]; simp [splice, rowB]
theorem rowB_at (bs : List UInt8) (m : UInt8) (k : Nat) (hk : k < 80) : (rowB bs m k)[bs.length + k]? = some (.int .u8 0) := by
  unfold rowB
  rw [List.getElem?_append_right (by simp), List.getElem?_append_right (by simp)]
  simp only [List.length_map, Nat.add_sub_cancel_left, List.length_replicate, Nat.sub_self]
  rw [List.getElem?_replicate, if_pos (by omega)]
theorem rowB_set (bs : List UInt8) (m : UInt8) (k : Nat) (hk : k < 80) : (rowB bs m k).set (bs.length + k) (B8 m) = rowB bs m (k + 1) := by
  unfold rowB
  obtain ⟨r, hr⟩ : ∃ r, 80 - k = r + 1 := ⟨79 - k, by omega⟩
  rw [show 80 - (k + 1) = r by omega, hr]
  rw [List.set_append_right _ _ (by simp), List.set_append_right _ _ (by simp)]
  simp only [List.length_map, Nat.add_sub_cancel_left, List.length_replicate, Nat.sub_self]
  rw [List.replicate_succ' (n := k), List.replicate_succ (n := r), List.set_cons_zero, List.append_assoc, List.singleton_append]

set_option maxRecDepth 100000 in
set_option maxHeartbeats 400000 in
theorem roomyB_calls (A : Option Addr) (n cap : Nat) (bs : List UInt8) (m : UInt8) (w : World) (hl : bs.length = n) (hn : n ≤ 140737488355328) (hs : Sl w A (bs.map B8)) :
    Calls Try.prog 31 #[.slice A n cap, .int .u8 (m.toNat : Int)] w fun e w' =>
      e = .returned (.slice (some ⟨w.heap.size, 0, none⟩) (n + 80) (n + 80)) ∧ Below w.heap.size w w' ∧ Blk w' w.heap.size 5 (rowB bs m 80) := by
  subst hl
  obtain ⟨i0, hi, hz0, hz1, hz2⟩ := info_parts infoB
  have hmk : ∀ u : World, (Instr.makeSlice 27 (.int .i64 ((bs.length : Int) + 80)) (.int .i64 ((bs.length : Int) + 80))).run Try.prog u =
      .ok (.slice (some ⟨u.heap.size, 0, none⟩) (bs.length + 80) (bs.length + 80)) (u.alloc (.cells (madeCells (Value.int .u8 0).cells ((bs.length + 80) * 1)) 5)) := fun u => by
    have h := run_make (P := Try.prog) u 27 5 i0 (.int .u8 0) Try.underlying27 hi hz0 .i64 .i64 ((bs.length : Int) + 80) ((bs.length : Int) + 80) (by omega) (Int.le_refl _) (by rw [hz2]; omega) (by omega)
    have e : ((bs.length : Int) + 80).toNat = bs.length + 80 := by omega
    rw [e, hz1] at h
    exact h
  generalize hM : (madeCells (Value.int .u8 0).cells ((bs.length + 80) * 1)) = M at hmk
  have HMk := Lib.hid hM
  clear hM
  go_enter Try.func31, Try.ntmps31
  have hsz : (Try.prog.info? 5).map (·.size) = some 1 := by rw [hi]; simp [hz1]
  go_wp2_with (with_reducible refine wpList_copy_splice (o := ⟨some 13, _, _, _, _, _⟩) ?g1 (.tmp 11) (.tmp 12) 27 27 ?g2 5 Try.underlying27 hsz (some ⟨w.heap.size, 0, none⟩) A (bs.length + 80) (bs.length + 80) bs.length cap ?g3 ?g4 w.heap.size 0 M.toList 5 ?g5 (bs.map B8) ?g6 ?g7 ?g8 ?g9 w.heap.size w ?g10 ?g11 ?_)
  case g1 => rfl
  case g2 => rfl
  case g3 => rfl
  case g4 => rfl
  case g5 => exact Blk.new w _ M
  case g6 => rw [List.length_map]; exact (Nat.min_eq_left (by omega)).symm
  case g7 =>
    intro hpos
    obtain ⟨b, o, rfl, _⟩ := hs.at_ (k := 0) (by simpa using hpos)
    refine ⟨_, rfl, fun j v hv => ?_⟩
    obtain ⟨b', o', e, hc⟩ := hs.alloc (.cells M 5) j (B8 v) (by simp [hv])
    obtain ⟨rfl, rfl⟩ : b = b' ∧ o = o' := by injection e with e; injection e with e1 e2; exact ⟨e1, e2⟩
    rw [Addr.add_lit]; exact hc
  case g8 => rw [← HMk.out]; simp [madeCells]
  case g9 => intro v hv; obtain ⟨x, _, rfl⟩ := List.mem_map.1 hv; rfl
  case g10 => exact (Below.refl _ _).alloc (Nat.le_refl _) _
  case g11 => exact Nat.le_refl _
  intro w2 HG hB
  have HB : Hid (Blk w2 w.heap.size 5 (rowB bs m 0)) := by
    have h := HG.out
    rw [← HMk.out, rowB_zero] at h
    exact h
  clear HG HMk hmk hs
  go_wp2_with fail
  go_loopw [6] (fun i wr => ∃ k : Nat, k ≤ 80 ∧ i = .int .i64 ((bs.length + k : Nat) : Int) ∧ Hid (Blk wr w.heap.size 5 (rowB bs m k)) ∧ Below w.heap.size w wr) (fun i _ => bs.length + 80 - (intOf i).toNat)
  case atStart => exact ⟨0, by omega, rfl, HB, hB⟩
  case round =>
    clear hB HB
    obtain ⟨k, hk, rfl, HK, hBr⟩ := hrel
    by_cases hlt : k < 80
    · have c0 := HK.out.cell (bs.length + k)
      rw [rowB_at bs m k hlt] at c0
      have f0 := HK.out.frozen (bs.length + k)
      have HS : Hid (Blk (wr.setCell ⟨w.heap.size, bs.length + k, none⟩ (.int .u8 (m.toNat : Int))) w.heap.size 5 (rowB bs m (k + 1))) := by
        have h := HK.out.set_ (bs.length + k) (B8 m)
        rw [rowB_set bs m k hlt] at h
        exact h
      have hBs : Below w.heap.size w (wr.setCell ⟨w.heap.size, bs.length + k, none⟩ (.int .u8 (m.toNat : Int))) := hBr.setCell (Nat.le_refl _) _
      go_wp2_with fail
      go_roundw
      case rel => exact ⟨k + 1, by omega, by go_num, HS, hBs⟩
      case measure => simp [intOf]; omega
    · obtain rfl : k = 80 := by omega
      go_wp2_with fail
      go_ret
      exact ⟨rfl, hBr, HK.out⟩
end Go.Proofs.Ytbmgeomndfodpaa
