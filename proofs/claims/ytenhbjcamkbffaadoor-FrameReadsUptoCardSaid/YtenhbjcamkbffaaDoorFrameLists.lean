/-
  The contract of spoorlaw23.lists, where the lists are the same.
-/
import Derived.Test.YtenhbjcamkbffaaDoorFrameScan
import Derived.Test.YtenhbjcamkbffaaDoorSameB
import Derived.Deep.QuietTactic
import Derived.BigQuiet
namespace Go.Proofs.YtenhbjcamkbffaaDoor
open Go.RowKit Go.Mem

theorem quietDr {P : Program} {f : FuncId} {args : Array Value} {w : World} {n : Nat} {v : Value} (h : Calls P f args (w.drewN n) fun e w' => e = .returned v ∧ ∃ q, w' = (w.drewN n).drewN q) : Calls P f args (w.drewN n) fun e w'' => e = .returned v ∧ ∃ m, w'' = w.drewN m :=
  h.mono fun e w' ⟨h1, q, h2⟩ => ⟨h1, n + q, by rw [h2, World.drewN_drewN]⟩

set_option maxRecDepth 100000 in
set_option maxHeartbeats 800000 in
theorem lists_true (A B : Option Addr) (n c1 c2 : Nat) (xs ys : List Part) (w : World) (hx : xs.length = n) (hy : ys.length = n) (hn : n ≤ 9223372036854775807) (he : xs.map Part.bs = ys.map Part.bs) (hA : Sl w A (xs.map Part.cell)) (hB : Sl w B (ys.map Part.cell))
    (hpa : ∀ p ∈ xs, Sl w p.A (p.bs.map B8)) (hpb : ∀ p ∈ ys, Sl w p.A (p.bs.map B8)) (hlen : ∀ p ∈ xs, p.bs.length ≤ 9223372036854775807) :
    Calls Tryd.prog 26 #[.slice A n c1, .slice B n c2] w fun e w' => e = .returned (.bool true) ∧ ∃ q, w' = w.drewN q := by
  have HA := Lib.hid hA
  have HB := Lib.hid hB
  have HPA := Lib.hid hpa
  have HPB := Lib.hid hpb
  have HLN := Lib.hid hlen
  have HE := Lib.hid he
  have HX := Lib.hid hx
  have HY := Lib.hid hy
  have hne : ((n : Int) != (n : Int)) = false := by simp
  clear hA hB hpa hpb hlen he hx hy
  go_enter Tryd.func26, Tryd.ntmps26
  go_wp2_with fail
  go_loopw [5] (fun i wr => ∃ (k : Nat), k ≤ n ∧ i = .int .i64 k ∧ ∃ q, wr = w.drewN q) (fun i _ => n - (intOf i).toNat)
  case atStart => exact ⟨0, Nat.zero_le _, rfl, 0, rfl⟩
  case round =>
    obtain ⟨k, hk, rfl, q, hq⟩ := hrel
    clear hne
    have hA2 : Sl wr A (xs.map Part.cell) := by rw [hq]; exact HA.out.drewN q
    have hB2 : Sl wr B (ys.map Part.cell) := by rw [hq]; exact HB.out.drewN q
    by_cases hlt : k < n
    · have hkx : k < xs.length := by rw [HX.out]; exact hlt
      have hky : k < ys.length := by rw [HY.out]; exact hlt
      obtain ⟨b, o, rfl, ha⟩ := hA2.at_ (k := k) (by rw [List.length_map]; exact hkx)
      obtain ⟨b2, o2, rfl, hb⟩ := hB2.at_ (k := k) (by rw [List.length_map]; exact hky)
      have hb12 : ys[k].bs = xs[k].bs := by
        have h1 := congrArg (fun l => l[k]?) HE.out
        simp only [List.getElem?_map, List.getElem?_eq_getElem hkx, List.getElem?_eq_getElem hky, Option.map_some, Option.some.injEq] at h1
        exact h1.symm
      have s1 : Sl wr xs[k].A (xs[k].bs.map B8) := by rw [hq]; exact (HPA.out _ (List.getElem_mem hkx)).drewN q
      have s2 : Sl wr ys[k].A (ys[k].bs.map B8) := by rw [hq]; exact (HPB.out _ (List.getElem_mem hky)).drewN q
      have s3 := HLN.out _ (List.getElem_mem hkx)
      rw [List.getElem_map] at ha hb
      unfold Part.cell at ha hb
      rw [hb12] at hb s2
      have HS : Hid (∀ Q, Calls Tryd.prog 22 #[.slice xs[k].A xs[k].bs.length xs[k].cap, .slice ys[k].A xs[k].bs.length ys[k].cap] (wr.drewN Q) fun e w' => e = .returned (.bool true) ∧ ∃ j, w' = (wr.drewN Q).drewN j) := (show ∀ _, _ from fun Q => (sameB_calls _ _ _ _ _ _ xs[k].bs xs[k].bs (wr.drewN Q) rfl rfl s3 s3 (s1.drewN Q) (s2.drewN Q)).mono fun e w' h => ⟨by rw [h.1, eqL_self], h.2⟩)
      generalize xs[k].bs.length = z at *
      generalize xs[k].A = A1 at *
      generalize ys[k].A = A2 at *
      generalize xs[k].cap = z1 at *
      generalize ys[k].cap = z2 at *
      have i0 : (0 : Int) ≤ (k : Int) := Int.natCast_nonneg _
      have i1 : (k : Int) < (n : Int) := by omega
      have HQ := Lib.hid hq
      clear s1 s2 s3 hb12 hA2 hB2 hq HA HB HPA HPB HE HX HY HLN hkx hky
      go_wp2_with fail
      go_quiet ((go_at_call 22; exact quietDr (HS.out _)))
      go_wp2_with fail
      go_roundw
      case rel => exact ⟨k + 1, by omega, by go_num, q + _, by rw [HQ.out, World.drewN_drewN]⟩
      case measure => simp [intOf]; omega
    · go_wp2_with fail
      go_ret
      exact ⟨rfl, q, by first | exact hq | rfl⟩
end Go.Proofs.YtenhbjcamkbffaaDoor
