/-
  SumAdds, its walk: a Sum to which parts are added has, behind each of them, the sum of all so far; another one stays 0; nil is let in.
-/
import Derived.Test.YtjmiejcgahajfaaDoorSumRuns
namespace Go.Proofs.YtjmiejcgahajfaaDoor
open Go.RowKit Go.Mem

set_option maxHeartbeats 1600000 in
theorem sumAdds_calls (A : Option Addr) (n cap : Nat) (ps : List Part) (w : World) (hT : Tabs w) (hl : ps.length = n) (hn : n ≤ 9223372036854775807) (hs : Sl w A (ps.map Part.cell))
    (hp : ∀ p ∈ ps, p.bs.length ≤ 9223372036854775807 ∧ Sl w p.A (p.bs.map B8)) :
    Calls Tryd.prog 6 #[.slice A n cap] w fun e w' => e = .returned (.bool true) ∧ Below w.heap.size w w' := by
  subst hl
  have B0 : Below w.heap.size w ((w.alloc (.cells #[.int .u32 0] 24)).alloc (.cells #[.int .u32 0] 24)) := ((Below.refl _ _).alloc (Nat.le_refl _) _).alloc (by simp) _
  have kc := conv_bytes (P := Tryd.prog) 26 5 Tryd.underlying26 Tryd.underlying5
  go_enter Tryd.func6, Tryd.ntmps6
  go_wp2_with fail
  go_loopw [5, 6] (fun c i wr => ∃ (k : Nat) (s : BitVec 32), k ≤ ps.length ∧ k ≤ 50 ∧ i = .int .i64 k ∧ c = .int .u32 (s.toNat : Int) ∧ Below w.heap.size w wr ∧ w.heap.size + 1 < wr.heap.size ∧
      wr.cell? ⟨w.heap.size, 0, none⟩ = some (.int .u32 (s.toNat : Int)) ∧ wr.frozen? ⟨w.heap.size, 0, none⟩ = false ∧ wr.cell? ⟨w.heap.size + 1, 0, none⟩ = some (.int .u32 0)) (fun _ i _ => 50 - (intOf i).toNat)
  case atStart => exact ⟨0, 0#32, Nat.zero_le _, by omega, rfl, rfl, B0, by simp, by go_simp, by go_simp, by go_simp⟩
  case round =>
    obtain ⟨k, s, hk, hk5, rfl, rfl, HB, hsz, hc, hf, ho⟩ := hrel
    clear B0
    by_cases hlt : k < ps.length ∧ k < 50
    · obtain ⟨h1, h2⟩ := hlt
      obtain ⟨b, o, rfl, hca⟩ := (hs.below HB).at_ (k := k) (by simpa using h1)
      have hpk := hp _ (List.getElem_mem h1)
      rw [List.getElem_map] at hca
      generalize ps[k] = x at hca hpk
      obtain ⟨hx1, hx2⟩ := hpk
      have hx3 := hx2.below HB
      have hT1 := hT.below HB
      unfold Part.cell at hca
      go_wp2_with fail
      refine (add_calls w.heap.size 0 s x.A x.bs.length x.cap x.bs wr rfl hx1 hT1 hx3 hc hf).mono ?_
      rintro e w1 ⟨rfl, c1, f1, g1⟩
      have B1 := below_grown HB g1 (by omega) (Nat.le_refl _)
      have o1 : w1.cell? ⟨w.heap.size + 1, 0, none⟩ = some (.int .u32 0) := (grown_cell g1 hsz (by omega)).trans ho
      have L1 : w.heap.size + 1 < w1.heap.size := Nat.lt_of_lt_of_le hsz g1.size
      have hca1 : w1.cell? ⟨b, o + k, none⟩ = some (.slice x.A x.bs.length x.cap) := by
        have hbl := lt_of_cell ((hs.at_ (k := k) (by simpa using h1)).choose_spec.choose_spec.2)
        obtain ⟨b2, o2, e, hc2⟩ := hs.at_ (k := k) (by simpa using h1)
        obtain ⟨rfl, rfl⟩ : b = b2 ∧ o = o2 := by injection e with e; injection e with e1 e2; exact ⟨e1, e2⟩
        have hb2 := lt_of_cell hc2
        exact (grown_cell g1 (Nat.lt_of_lt_of_le hb2 HB.size) (by have : b < w.heap.size := hb2; omega)).trans hca
      clear HB hsz hc hf ho hca hx3 hT1 g1
      have hx4 := hx2.below B1
      generalize hr : Crc.crc s x.bs = r at c1
      have HR := Lib.hid hr
      clear hr
      go_wp2_with fail
      refine (refOn_calls s x.A x.bs.length x.cap x.bs w1 rfl hx1 hx4).mono ?_
      rintro e w2 ⟨rfl, rfl⟩
      rw [HR.out]
      go_wp2_with fail
      refine (value_calls w.heap.size 0 _ w1 c1).mono ?_
      rintro e w2 ⟨rfl, rfl⟩
      go_wp2_with fail
      refine (value_calls w.heap.size 0 _ w1 c1).mono ?_
      rintro e w2 ⟨rfl, rfl⟩
      go_wp2_with fail
      refine (value_calls (w.heap.size + 1) 0 _ w1 o1).mono ?_
      rintro e w2 ⟨rfl, rfl⟩
      go_wp2_with fail
      go_roundw
      case rel => exact ⟨k + 1, r, by omega, by omega, by go_num, rfl, B1, L1, c1, f1, o1⟩
      case measure => simp [intOf]; omega
    · have HT := hT.below (HB.alloc (by omega) (.cells #[.int .u8 1] 5))
      have HB1 := HB.alloc (by omega) (.cells #[.int .u8 1] 5)
      clear hc hf ho
      by_cases h1 : k < ps.length
      all_goals
        first
          | (have h2 : ¬ k < 50 := fun h => hlt ⟨h1, h⟩)
          | skip
        clear hlt
        go_wp2_with fail
        refine (add_nil_calls _ _).mono ?_
        rintro e w2 ⟨rfl, rfl⟩
        go_wp2_with fail
        refine (value_nil_calls _).mono ?_
        rintro e w2 ⟨rfl, rfl⟩
        go_wp2_with fail
        refine (sumRuns_calls _ HT).mono ?_
        rintro e w6 ⟨rfl, hb6⟩
        go_wp2_with fail
        go_ret
        exact ⟨rfl, HB1.trans (hb6.mono HB1.size)⟩
end Go.Proofs.YtjmiejcgahajfaaDoor
