/-
  UtfGo, its walk.
-/
import Derived.Test.YtepmnhlfjidhjaaUtfGoM
import Derived.Test.YtepmnhlfjidhjaaUtfRuns
import Derived.Laws.IdiomStrings
namespace Go.Proofs.Ytepmnhlfjidhjaa
open Go.RowKit Go.Mem

theorem bytes_of (w : World) (s : ByteArray) : ∃ (c : Nat) (W : World), (convert 9 24 (.string s)).run Try.prog w = .ok (.slice (some ⟨w.heap.size, 0, none⟩) s.size c) W ∧ s.size ≤ c ∧ (s.size ≤ maxLen → c ≤ maxLen) ∧ Sl W (some ⟨w.heap.size, 0, none⟩) (s.data.toList.map B8) ∧ Below w.heap.size w W := by
  refine ⟨_, _, run_bytes_of_string w 9 24 5 s Try.underlying9 Try.underlying24 Try.underlying5, grownCap_ge _ _ _ _, grownCap_le_maxLen _ _ _ _, ?_, (Below.refl _ _).drew.alloc (Nat.le_refl _) _⟩
  have h : Sl (w.drew.alloc (.cells (bytesRow s (grownCap w s.size 0 5)) 5 ((bytesRow s (grownCap w s.size 0 5)).size, (bytesRow s (grownCap w s.size 0 5)).size + 1))) (some ⟨w.heap.size, 0, none⟩) (bytesRow s (grownCap w s.size 0 5)).toList := Sl.new (W := w.drew) rfl rfl
  have h2 := h.take s.data.toList.length
  have e : (bytesRow s (grownCap w s.size 0 5)).toList.take s.data.toList.length = s.data.toList.map B8 := by
    unfold bytesRow
    rw [Array.toList_append, List.take_append_of_le_length (by simp), List.take_of_length_le (by simp)]
    simp [B8]
  rw [e] at h2
  exact h2

set_option maxRecDepth 100000 in
set_option maxHeartbeats 1600000 in
theorem utfGo_calls (s : ByteArray) (w : World) (hn : s.size ≤ 1048576) :
    Calls Try.prog 3 #[.string s] w fun e w' => e = .returned (.bool true) ∧ Below w.heap.size w w' := by
  obtain ⟨c, W, kc, hc, hcm, hsl, hb⟩ := bytes_of w s
  have hcM := hcm (by unfold maxLen; omega)
  unfold maxLen at hcM
  have hlen : s.data.toList.length = s.size := Array.length_toList
  have HA := Lib.hid (all_calls s.data.toList (some ⟨w.heap.size, 0, none⟩) s.size c W hlen (by omega) hc (by omega) hsl)
  unfold AllEnds at HA
  have HDF : Hid (∀ pos, pos < s.size → Utf8.decode s pos = frontU (s.data.toList.drop pos)) := (show ∀ _, _ from fun pos h => decode_front s pos h)
  have HLN : Hid (s.data.toList.length = s.size) := (show _ = _ from hlen)
  generalize s.data.toList = bs at HA HDF HLN
  clear hsl hlen hcm
  go_enter Try.func3, Try.ntmps3
  go_wp2_with fail
  refine HA.out.mono ?_
  rintro e w2 ⟨D, m, cD, rfl, hm, hm2, o2, b2⟩
  have HS := Lib.hid o2.sl
  have HM : Hid ((allU bs).length = m) := (show _ = _ from hm.symm)
  have hB2 := hb.trans (b2.mono hb.size)
  clear hm hm2 o2 b2 HA kc hb hc hcM
  go_wp2_with fail
  go_loopw [4, 5, 6, 7] (fun s4 s5 _ _ wr => ∃ (pos k : Nat), wr = w2.iter s pos ∧ s4 = .int .i64 k ∧ s5 = .int .i64 pos ∧ pos ≤ s.size ∧ k ≤ pos ∧ Hid (allU (bs.drop pos) = (allU bs).drop k) ∧ Hid (k ≤ m)) (fun _ _ _ _ wr => s.size - wr.iterPos w2.heap.size)
  case atStart => exact ⟨0, 0, rfl, rfl, rfl, Nat.zero_le _, Nat.zero_le _, (show _ = _ from rfl), (show _ ≤ _ from Nat.zero_le _)⟩
  case round =>
    obtain ⟨pos, k, rfl, rfl, rfl, hps, hkp, HR, HKM⟩ := hrel
    by_cases hp : pos < s.size
    · have hr : 0 < (bs.drop pos).length := by rw [List.length_drop, HLN.out]; omega
      have hall := allU_cons hr
      have hpos := frontU_pos (bs.drop pos)
      have hle := frontU_le (bs.drop pos) hr
      rw [List.length_drop, HLN.out] at hle
      have hdec := HDF.out pos hp
      rw [List.drop_drop] at hall
      generalize frontU (bs.drop pos) = G at hall hpos hle hdec
      obtain ⟨R, N⟩ := G
      simp only at hpos hle hall
      have hk0 : (allU bs)[k]? = some (R, N) := by
        have h1 : ((allU bs).drop k)[0]? = some (R, N) := by rw [← HR.out, hall]; rfl
        rw [List.getElem?_drop] at h1; exact h1
      have HR2 : Hid (allU (bs.drop (pos + N)) = (allU bs).drop (k + 1)) := (show _ = _ by
        have h1 := congrArg List.tail HR.out
        rw [hall, List.tail_cons, List.tail_drop] at h1
        exact h1)
      have hkm : k < m := by
        have := (List.getElem?_eq_some_iff.1 hk0).1
        rw [HM.out] at this; exact this
      obtain ⟨b, o, rfl, x1, x2⟩ := Sl.got (w := w2.iter s pos) (HS.out.alloc _) hk0
      have hnx : ∀ ty, (Instr.next (.pointer (some ⟨w2.heap.size, 0, none⟩)) true ty).run Try.prog (w2.iter s pos) = .ok (.tuple #[.bool true, .int .i64 pos, .int .i32 (R : Int)]) (w2.iter s (pos + N)) := fun ty => by rw [run_next_any w2 s pos ty hp, hdec]
      have x3 : (w2.iter s (pos + N)).cell? ⟨b, o + k * 2, none⟩ = some (.int .i32 (R : Int)) := by
        obtain ⟨b3, o3, e3, x3, _⟩ := Sl.got (w := w2.iter s (pos + N)) (HS.out.alloc _) hk0
        cases e3; exact x3
      have x4 : (w2.iter s (pos + N)).cell? ⟨b, o + k * 2 + 1, none⟩ = some (.int .i64 (N : Int)) := by
        obtain ⟨b3, o3, e3, _, x4⟩ := Sl.got (w := w2.iter s (pos + N)) (HS.out.alloc _) hk0
        cases e3; exact x4
      have e1 : ((R : Int) != (R : Int)) = false := by simp
      have e2 : ((pos : Int) != (pos : Int)) = false := by simp
      have i0 : (0 : Int) ≤ (k : Int) := by omega
      have i1 : (k : Int) < (m : Int) := by omega
      have i2 : ¬ (m : Int) ≤ (k : Int) := by omega
      have i3 : ¬ (N : Int) < 1 := by omega
      have i4 : ¬ (4 : Int) < (N : Int) := by omega
      have HK2 : Hid (k + 1 ≤ m) := (show _ ≤ _ from hkm)
      clear hr hall hdec hk0 hkm x1 x2
      go_wp2_with fail
      go_roundw
      case rel => exact ⟨pos + N, k + 1, rfl, by go_num, by go_num, by omega, by omega, HR2, HK2⟩
      case measure => simp; omega
    · have hnx : ∀ ty, (Instr.next (.pointer (some ⟨w2.heap.size, 0, none⟩)) true ty).run Try.prog (w2.iter s pos) = _ := fun ty => run_next_end w2 s pos ty hp
      obtain rfl : pos = s.size := by omega
      obtain rfl : k = m := by
        have h1 := congrArg List.length HR.out
        rw [List.length_drop, HM.out, List.drop_eq_nil_of_le (by rw [HLN.out]; omega), allU_nil] at h1
        have := HKM.out
        simp at h1
        omega
      have hB3 : Below w.heap.size w (w2.iter s s.size) := hB2.alloc hB2.size _
      go_wp2_with fail
      refine (utfRuns_calls _).mono ?_
      rintro e w5 ⟨rfl, b5⟩
      go_wp2_with fail
      go_ret
      exact ⟨rfl, hB3.trans (b5.mono hB3.size)⟩
end Go.Proofs.Ytepmnhlfjidhjaa
