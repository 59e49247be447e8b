/-
  The contract of spoorbook.Intact at bytes: is a list that Roomy made of was as it was?
-/
import Derived.Test.YtbmgeomndfodpaaSameB
import Derived.Test.YtbmgeomndfodpaaRoomyB
namespace Go.Proofs.Ytbmgeomndfodpaa
open Go.RowKit Go.Mem

set_option maxHeartbeats 400000 in
theorem intactB_calls (A B : Option Addr) (n nn c1 c2 : Nat) (bs : List UInt8) (m : UInt8) (w : World) (hl : bs.length = n) (hnn : nn = n + 80) (hn : n ≤ 140737488355328) (hA : Sl w A (rowB bs m 80)) (hB : Sl w B (bs.map B8)) (hc : nn ≤ c1) :
    Calls Try.prog 32 #[.slice A nn c1, .slice B n c2, .int .u8 (m.toNat : Int)] w fun e w' => e = .returned (.bool true) ∧ ∃ q, w' = w.drewN q := by
  subst hl hnn
  have hh : Sl w A (bs.map B8) := by
    have h := hA.take bs.length
    unfold rowB at h
    rw [List.take_append_of_le_length (by simp), List.take_of_length_le (by simp)] at h
    exact h
  have hb0 : ((bs.length : Int) + 80 != (bs.length : Int) + 80) = false := by simp
  go_enter Try.func32, Try.ntmps32
  go_wp2_with fail
  refine (sameB_calls A B bs.length bs.length c1 c2 bs bs w rfl rfl (by omega) (by omega) hh hB).mono ?_
  rintro e w' ⟨rfl, q, rfl⟩
  rw [eqL_self]
  go_wp2_with fail
  go_loopw [7] (fun i wr => ∃ k : Nat, k ≤ 80 ∧ i = .int .i64 ((bs.length + k : Nat) : Int) ∧ ∃ q, wr = w.drewN q) (fun i _ => bs.length + 80 - (intOf i).toNat)
  case atStart => exact ⟨0, by omega, rfl, _, rfl⟩
  case round =>
    obtain ⟨k, hk, rfl, q, rfl⟩ := hrel
    by_cases hlt : k < 80
    · obtain ⟨b, o, rfl, hca⟩ := hA.at_ (k := bs.length + k) (by rw [rowB_length _ _ _ (Nat.le_refl _)]; omega)
      have e1 : (rowB bs m 80)[bs.length + k]'(by rw [rowB_length _ _ _ (Nat.le_refl _)]; omega) = .int .u8 (m.toNat : Int) := by
        have h2 : (rowB bs m 80)[bs.length + k]? = some (B8 m) := by
          unfold rowB
          rw [List.getElem?_append_right (by simp), List.getElem?_append_left (by simp; omega), List.getElem?_replicate, if_pos (by simp; omega)]
        rw [List.getElem?_eq_getElem (by rw [rowB_length _ _ _ (Nat.le_refl _)]; omega)] at h2
        exact Option.some.inj h2
      rw [e1] at hca
      clear e1 hh hA
      have hb : ((m.toNat : Int) != (m.toNat : Int)) = false := by simp
      go_wp2_with fail
      go_roundw
      case rel => exact ⟨k + 1, by omega, by go_num, _, rfl⟩
      case measure => simp [intOf]; omega
    · obtain rfl : k = 80 := by omega
      go_wp2_with fail
      go_ret
      exact ⟨rfl, _, rfl⟩
end Go.Proofs.Ytbmgeomndfodpaa
