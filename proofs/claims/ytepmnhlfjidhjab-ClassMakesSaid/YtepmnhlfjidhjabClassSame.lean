/-
  The contract of spoorbook.Same at api.Range, where the lists are the same.
-/
import Derived.Test.YtepmnhlfjidhjabClass
namespace Go.Proofs.Ytepmnhlfjidhjab
open Go.RowKit Go.Mem

set_option maxRecDepth 100000 in
set_option maxHeartbeats 800000 in
theorem sameR_true (A B : Option Addr) (n m c1 c2 : Nat) (l : List (Int × Int)) (w : World) (hx : l.length = n) (hy : l.length = m) (hn : n ≤ 9223372036854775807) (hA : Sl w A (flatR l)) (hB : Sl w B (flatR l)) :
    Calls Try.prog 31 #[.slice A n c1, .slice B m c2] w fun e w' => e = .returned (.bool true) ∧ ∃ q, w' = w.drewN q := by
  subst hx hy
  have hne : ((l.length : Int) != (l.length : Int)) = false := by simp
  go_enter Try.func31, Try.ntmps31
  go_wp2_with fail
  go_loopw [5] (fun i wr => ∃ (k : Nat), k ≤ l.length ∧ i = .int .i64 k ∧ ∃ q, wr = w.drewN q) (fun i _ => l.length - (intOf i).toNat)
  case atStart => exact ⟨0, Nat.zero_le _, rfl, 0, rfl⟩
  case round =>
    obtain ⟨k, hk, rfl, q, rfl⟩ := hrel
    clear hne
    by_cases hlt : k < l.length
    · have hr : l[k]? = some l[k] := List.getElem?_eq_getElem hlt
      obtain ⟨b, o, rfl, ha, ha2⟩ := Sl.range hA hr
      obtain ⟨b2, o2, rfl, hb, hb2⟩ := Sl.range hB hr
      generalize l[k] = r at ha ha2 hb hb2
      obtain ⟨r1, r2⟩ := r
      have e1 : (r1 == r1) = true := beq_iff_eq.2 rfl
      have e2 : (r2 == r2) = true := beq_iff_eq.2 rfl
      have i0 : (0 : Int) ≤ (k : Int) := Int.natCast_nonneg _
      have i1 : (k : Int) < (l.length : Int) := by omega
      clear hr
      go_wp2_with fail
      go_quiet (fail)
      go_wp2_with fail
      go_roundw
      case rel => exact ⟨k + 1, by omega, by go_num, _, rfl⟩
      case measure => simp [intOf]; omega
    · go_wp2_with fail
      go_ret
      exact ⟨rfl, _, rfl⟩
end Go.Proofs.Ytepmnhlfjidhjab
