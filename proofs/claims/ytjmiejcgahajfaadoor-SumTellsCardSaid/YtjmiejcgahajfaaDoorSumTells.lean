/-
  SumTells, its walk: the program's sums are the document's; the bytes, and the room behind them, stay.
-/
import Derived.Test.YtjmiejcgahajfaaDoorSumRuns
import Derived.Test.YtjmiejcgahajfaaDoorIntactB
namespace Go.Proofs.YtjmiejcgahajfaaDoor
open Go.RowKit Go.Mem

set_option maxHeartbeats 1600000 in
theorem sumTells_calls (c : BitVec 32) (A B : Option Addr) (n cap m cap2 : Nat) (bs qs : List UInt8) (w : World) (hT : Tabs w) (hl : bs.length = n) (hn : n ≤ 140737488355328) (hl2 : qs.length = m) (hm : m ≤ 9223372036854775807)
    (hs : Sl w A (bs.map B8)) (hq : Sl w B (qs.map B8)) :
    Calls Tryd.prog 4 #[.int .u32 (c.toNat : Int), .slice A n cap, .slice B m cap2] w fun e w' => e = .returned (.bool true) ∧ Below w.heap.size w w' := by
  go_enter Tryd.func4, Tryd.ntmps4
  go_wp2_with fail
  refine (roomyB_calls A n cap bs 99 w hl hn hs).mono ?_
  rintro e w1 ⟨rfl, B1, K1⟩
  have hT1 := hT.below B1
  have hs1 := hs.below B1
  have hh1 : Sl w1 (some ⟨w.heap.size, 0, none⟩) (bs.map B8) := by
    have h := K1.sl.take bs.length
    unfold rowB at h
    rw [List.take_append_of_le_length (by simp), List.take_of_length_le (by simp)] at h
    exact h
  go_wp2_with fail
  refine (refOn_calls 0#32 A n cap bs w1 hl (by omega) hs1).mono ?_
  rintro e w2 ⟨rfl, rfl⟩
  generalize hone : Crc.crc 0#32 bs = one
  have HO := Lib.hid hone
  clear hone
  go_wp2_with fail
  refine (toQ (on_calls c _ n _ bs w1 hl (by omega) hT1 hh1)).mono ?_
  rintro e w2 ⟨rfl, q2⟩
  go_wp2_with fail
  refine (refOn_calls c A n cap bs w2 hl (by omega) (hs1.q q2)).mono ?_
  rintro e w3 ⟨rfl, rfl⟩
  have B2 := B1.trans (q2.below _)
  have hT2 := hT.below B2
  have L2 : w.heap.size < w2.heap.size := (K1.q q2).lt
  go_wp2_with fail
  have hb3 : Below w2.heap.size w2 (w2.alloc (.cells #[.slice (some ⟨w.heap.size, 0, none⟩) n (n + 80)] 26)) := (Below.refl _ _).alloc (Nat.le_refl _) _
  refine (toQ (of_calls _ 1 1 [⟨some ⟨w.heap.size, 0, none⟩, n + 80, bs⟩] _ rfl (by decide) (hT2.below hb3) (Sl.new rfl (by subst hl; rfl)) (by
    intro p hp
    obtain rfl := List.mem_singleton.1 hp
    exact ⟨by simp only; omega, (hh1.q q2).alloc _⟩))).mono ?_
  rintro e w3 ⟨rfl, q3⟩
  rw [show Crc.crcs 0#32 (List.map Part.bs [⟨some ⟨w.heap.size, 0, none⟩, n + 80, bs⟩]) = one from HO.out]
  have K3 := ((K1.q q2).alloc (.cells #[.slice (some ⟨w.heap.size, 0, none⟩) n (n + 80)] 26)).q q3
  have hh3 := ((hh1.q q2).alloc (.cells #[.slice (some ⟨w.heap.size, 0, none⟩) n (n + 80)] 26)).q q3
  have B3 : Below w.heap.size w w3 := B2.trans ((hb3.mono (by omega)).trans (q3.below _))
  clear hb3 q3 hh1 hT1 hs1 K1 B1 hT2 L2 B2 q2
  have hT3 := hT.below B3
  have hq3 := hq.below B3
  have L3 := K3.lt
  go_wp2_with fail
  have hb4 : Below w3.heap.size w3 (w3.alloc (.cells #[.slice (some ⟨w.heap.size, 0, none⟩) n (n + 80), .slice B m cap2] 26)) := (Below.refl _ _).alloc (Nat.le_refl _) _
  refine (toQ (of_calls _ 2 2 [⟨some ⟨w.heap.size, 0, none⟩, n + 80, bs⟩, ⟨B, cap2, qs⟩] _ rfl (by decide) (hT3.below hb4) (Sl.new rfl (by subst hl hl2; rfl)) (by
    intro p hp
    rcases List.mem_cons.1 hp with rfl | hp
    · exact ⟨by simp only; omega, hh3.alloc _⟩
    · obtain rfl := List.mem_singleton.1 hp
      exact ⟨by simp only; omega, hq3.alloc _⟩))).mono ?_
  rintro e w4 ⟨rfl, q4⟩
  rw [show Crc.crcs 0#32 (List.map Part.bs [⟨some ⟨w.heap.size, 0, none⟩, n + 80, bs⟩, ⟨B, cap2, qs⟩]) = Crc.crc one qs from (by rw [← HO.out]; rfl)]
  have K4 := (K3.alloc (.cells #[.slice (some ⟨w.heap.size, 0, none⟩) n (n + 80), .slice B m cap2] 26)).q q4
  have B4 : Below w.heap.size w w4 := B3.trans ((hb4.mono (by omega)).trans (q4.below _))
  clear hb4 q4 hh3 hT3 hq3 L3 K3 B3
  have hT4 := hT.below B4
  have hq4 := hq.below B4
  go_wp2_with fail
  refine (refOn_calls one B m cap2 qs w4 hl2 hm hq4).mono ?_
  rintro e w5 ⟨rfl, rfl⟩
  go_wp2_with fail
  refine (toQ (intactB_calls _ A n (n + 80) (n + 80) cap bs 99 w4 hl rfl hn K4.sl (hs.below B4) (Nat.le_refl _))).mono ?_
  rintro e w5 ⟨rfl, q5⟩
  have B5 := B4.trans (q5.below _)
  go_wp2_with fail
  refine (sumRuns_calls w5 (hT.below B5)).mono ?_
  rintro e w6 ⟨rfl, hb6⟩
  go_wp2_with fail
  go_ret
  exact ⟨rfl, B5.trans (hb6.mono B5.size)⟩
end Go.Proofs.YtjmiejcgahajfaaDoor
