/-
  ident.Head and ident.Same, and the document's own: over the sums' contracts.
-/
import Derived.Test.YtenhbjcamkbffaaDoorOn
import Derived.Test.YtenhbjcamkbffaaDoorKeep
import Derived.Deep.RegionHeld3
namespace Go.Proofs.YtenhbjcamkbffaaDoor
open Go.RowKit Go.Mem

def headV (bs : List UInt8) : Value := .agg #[.int .i64 ((bs.take 16).length : Int), .int .u32 ((Crc.crc 0#32 (bs.take 16)).toNat : Int)]
def HeadEnds (w : World) (bs : List UInt8) (e : Ending) (w' : World) : Prop := e = .returned (headV bs) ∧ Below w.heap.size w w'
theorem take16 (bs : List UInt8) (h : bs.length ≤ 16) : bs.take 16 = bs := List.take_of_length_le h

theorem crcs_one (A : Option Addr) (cap : Nat) (bs : List UInt8) : Crc.crcs 0#32 (List.map Part.bs [⟨A, cap, bs⟩]) = Crc.crc 0#32 bs := rfl

/-- sum.Of of one slice, handed in as a list of one in new memory -/
theorem of_one (A : Option Addr) (cap k g : Nat) (bs : List UInt8) (W : World) (hg : g = W.heap.size) (hl : bs.length = k) (hk : k ≤ 9223372036854775807) (hT : Tabs W) (hs : Sl W A (bs.map B8)) :
    Calls Tryd.prog 27 #[.slice (some ⟨g, 0, none⟩) 1 1] (W.alloc (.cells #[.slice A k cap] 26)) fun e w' => e = .returned (.int .u32 ((Crc.crc 0#32 bs).toNat : Int)) ∧ ∃ m, w' = (W.alloc (.cells #[.slice A k cap] 26)).drewN m := by
  subst hg hl
  exact of_calls _ 1 1 [⟨A, cap, bs⟩] _ rfl (by decide) (hT.below ((Below.refl _ _).alloc (Nat.le_refl _) _)) (Sl.new rfl rfl) (by
    intro p hp
    obtain rfl := List.mem_singleton.1 hp
    exact ⟨hk, hs.alloc _⟩)

theorem of_oneD (A : Option Addr) (cap k g : Nat) (bs : List UInt8) (W : World) (hg : g = W.heap.size) (hl : bs.length = k) (hk : k ≤ 9223372036854775807) (hT : Tabs W) (hs : Sl W A (bs.map B8)) :
    Calls Tryd.prog 27 #[.slice (some ⟨g, 0, none⟩) 1 1] (W.alloc (.cells #[.slice A k cap] 26)).drew fun e w' => e = .returned (.int .u32 ((Crc.crc 0#32 bs).toNat : Int)) ∧ ∃ m, w' = ((W.alloc (.cells #[.slice A k cap] 26)).drew).drewN m :=
  of_one A cap k g bs W.drew hg hl hk hT hs

set_option maxHeartbeats 800000 in
theorem head_calls (A : Option Addr) (n cap : Nat) (bs : List UInt8) (w : World) (hl : bs.length = n) (hn : n ≤ 9223372036854775807) (hc : n ≤ cap) (hT : Tabs w) (hs : Sl w A (bs.map B8)) :
    Calls Tryd.prog 12 #[.slice A n cap] w (HeadEnds w bs) := by
  subst hl
  have hs1 : Sl w A ((bs.take 16).map B8) := by rw [List.map_take]; exact hs.take 16
  by_cases h : bs.length ≤ 16
  · have HV : Hid (headV bs = .agg #[.int .i64 (bs.length : Int), .int .u32 ((Crc.crc 0#32 (bs.take 16)).toNat : Int)]) := (show _ = _ by unfold headV; rw [List.length_take, Nat.min_eq_right h])
    have HL : Hid ((bs.take 16).length = bs.length) := (show _ = _ by rw [List.length_take, Nat.min_eq_right h])
    have hmin : min (bs.length : Int) 16 = (bs.length : Int) := by omega
    have hlt : ((bs.length : Int) ≤ 16) := by omega
    go_enter Tryd.func12, Tryd.ntmps12
    go_wp2_with fail
    refine (toQ (of_one A cap _ _ (bs.take 16) _ (by simp) HL.out (by omega) (hT.below ((Below.refl _ _).alloc (Nat.le_refl _) _)) (hs1.alloc _))).mono ?_
    rintro e w2 ⟨rfl, q2⟩
    have hc0 : w2.cell? ⟨w.heap.size, 0, none⟩ = some (.int .i64 0) := (q2.cell _).trans (cell_alloc (by rw [World.cell?_alloc_mark]; rfl) _)
    have hc1 : w2.cell? ⟨w.heap.size, 1, none⟩ = some (.int .u32 0) := (q2.cell _).trans (cell_alloc (by rw [World.cell?_alloc_mark]; rfl) _)
    have hf0 : w2.frozen? ⟨w.heap.size, 0, none⟩ = false := (q2.frozen _).trans (((Blk.new w _ _).alloc _).frozen 0)
    have hf1 : w2.frozen? ⟨w.heap.size, 1, none⟩ = false := (q2.frozen _).trans (((Blk.new w _ _).alloc _).frozen 1)
    have HB := Lib.hid (((((Below.refl w.heap.size w).alloc (Nat.le_refl _) (.cells #[.int .i64 0, .int .u32 0] 24)).alloc (by simp) (.cells #[.slice A (bs.length) cap] 26)).trans (q2.below _)))
    generalize Crc.crc 0#32 (bs.take 16) = cc at HV
    clear q2
    go_wp2_with fail
    exact bodyPost_ret (v := .agg #[.int .i64 (bs.length : Int), .int .u32 (cc.toNat : Int)]) (by simp [results, Tryd.results12, go_sem, hc0, hc1]) rfl ⟨by rw [HV.out], (HB.out.setCell (by simp) _).setCell (by simp) _⟩
  · have HV : Hid (headV bs = .agg #[.int .i64 16, .int .u32 ((Crc.crc 0#32 (bs.take 16)).toNat : Int)]) := (show _ = _ by unfold headV; rw [List.length_take, Nat.min_eq_left (by omega)]; rfl)
    have HL : Hid ((bs.take 16).length = 16) := (show _ = _ by rw [List.length_take, Nat.min_eq_left (by omega)])
    have hlt : ¬ ((bs.length : Int) ≤ 16) := by omega
    have hcap : (16 : Int) ≤ (cap : Int) := by omega
    go_enter Tryd.func12, Tryd.ntmps12
    go_wp2_with fail
    refine (toQ (of_one A cap _ _ (bs.take 16) _ (by simp) HL.out (by omega) (hT.below ((Below.refl _ _).alloc (Nat.le_refl _) _)) (hs1.alloc _))).mono ?_
    rintro e w2 ⟨rfl, q2⟩
    have hc0 : w2.cell? ⟨w.heap.size, 0, none⟩ = some (.int .i64 0) := (q2.cell _).trans (cell_alloc (by rw [World.cell?_alloc_mark]; rfl) _)
    have hc1 : w2.cell? ⟨w.heap.size, 1, none⟩ = some (.int .u32 0) := (q2.cell _).trans (cell_alloc (by rw [World.cell?_alloc_mark]; rfl) _)
    have hf0 : w2.frozen? ⟨w.heap.size, 0, none⟩ = false := (q2.frozen _).trans (((Blk.new w _ _).alloc _).frozen 0)
    have hf1 : w2.frozen? ⟨w.heap.size, 1, none⟩ = false := (q2.frozen _).trans (((Blk.new w _ _).alloc _).frozen 1)
    have HB := Lib.hid (((((Below.refl w.heap.size w).alloc (Nat.le_refl _) (.cells #[.int .i64 0, .int .u32 0] 24)).alloc (by simp) (.cells #[.slice A (16) cap] 26)).trans (q2.below _)))
    generalize Crc.crc 0#32 (bs.take 16) = cc at HV
    clear q2
    go_wp2_with fail
    exact bodyPost_ret (v := .agg #[.int .i64 16, .int .u32 (cc.toNat : Int)]) (by simp [results, Tryd.results12, go_sem, hc0, hc1]) rfl ⟨by rw [HV.out], (HB.out.setCell (by simp) _).setCell (by simp) _⟩

def sameH (n : Int) (c : BitVec 32) (at_ size : Int) (bs : List UInt8) : Bool :=
  decide (at_ ≤ size ∧ 0 ≤ n ∧ n ≤ 16 ∧ n ≤ (bs.length : Int)) && (((Crc.crc 0#32 (bs.take n.toNat)).toNat : Int) == (c.toNat : Int))
theorem sameH_no {n : Int} {c : BitVec 32} {at_ size : Int} {bs : List UInt8} (h : ¬ (at_ ≤ size ∧ 0 ≤ n ∧ n ≤ 16 ∧ n ≤ (bs.length : Int))) : sameH n c at_ size bs = false := by
  unfold sameH; rw [decide_eq_false h]; rfl
theorem sameH_yes {n : Int} {c : BitVec 32} {at_ size : Int} {bs : List UInt8} (h : at_ ≤ size ∧ 0 ≤ n ∧ n ≤ 16 ∧ n ≤ (bs.length : Int)) : sameH n c at_ size bs = (((Crc.crc 0#32 (bs.take n.toNat)).toNat : Int) == (c.toNat : Int)) := by
  unfold sameH; rw [decide_eq_true h]; rfl
def HeldEnds (w : World) (v : Bool) (e : Ending) (w' : World) : Prop := e = .returned (.bool v) ∧ Below w.heap.size w w'

set_option maxHeartbeats 1600000 in
theorem same_calls (n : Int) (c : BitVec 32) (at_ size : Int) (A : Option Addr) (m cap : Nat) (bs : List UInt8) (w : World) (hl : bs.length = m) (hm : m ≤ 9223372036854775807) (hc : m ≤ cap) (hT : Tabs w) (hs : Sl w A (bs.map B8)) :
    Calls Tryd.prog 13 #[.agg #[.int .i64 n, .int .u32 (c.toNat : Int)], .int .i64 at_, .int .i64 size, .slice A m cap] w (HeldEnds w (sameH n c at_ size bs)) := by
  subst hl
  by_cases h : at_ ≤ size ∧ 0 ≤ n ∧ n ≤ 16 ∧ n ≤ (bs.length : Int)
  · have HV := Lib.hid (sameH_yes (c := c) h)
    obtain ⟨h1, h2, h3, h4⟩ := h
    obtain ⟨k, rfl⟩ := Int.eq_ofNat_of_zero_le h2
    have hk : k ≤ bs.length := by omega
    have hkc : (k : Int) ≤ (cap : Int) := by omega
    have HL : Hid ((bs.take k).length = k) := (show _ = _ by rw [List.length_take, Nat.min_eq_left hk])
    have hs1 : Sl w A ((bs.take k).map B8) := by rw [List.map_take]; exact hs.take k
    rw [Int.toNat_natCast] at HV
    go_enter Tryd.func13, Tryd.ntmps13
    have r0 : (w.alloc (.cells #[.int .i64 (k : Int), .int .u32 (c.toNat : Int)] 24)).cell? ⟨w.heap.size, 0, none⟩ = some (.int .i64 (k : Int)) := by rw [World.cell?_alloc_mark]; rfl
    have r1 : (w.alloc (.cells #[.int .i64 (k : Int), .int .u32 (c.toNat : Int)] 24)).cell? ⟨w.heap.size, 1, none⟩ = some (.int .u32 (c.toNat : Int)) := by rw [World.cell?_alloc_mark]; rfl
    have HOf := Lib.hid (of_oneD A cap k (w.heap.size + 1) (bs.take k) (w.alloc (.cells #[.int .i64 (k : Int), .int .u32 (c.toNat : Int)] 24)) (by simp) HL.out (by omega) (hT.below ((Below.refl _ _).alloc (Nat.le_refl _) _)) (hs1.alloc _))
    go_wp2_with fail
    go_region_held3 (fun w' => w'.cell? ⟨w.heap.size, 0, none⟩ = some (.int .i64 (k : Int)) ∧ w'.cell? ⟨w.heap.size, 1, none⟩ = some (.int .u32 (c.toNat : Int))) (first | (exact ⟨cell_alloc r0 _, cell_alloc r1 _⟩) | go_keep) (first | (go_at_call 27; refine HOf.out.mono ?_; rintro e w3 ⟨rfl, q3, rfl⟩))
    all_goals
      go_wp2_with fail
      go_ret
      exact ⟨by rw [HV.out]; rfl, by repeat (first | exact Below.refl _ _ | exact Nat.le_refl _ | refine below_drewN ?_ _ | refine Below.drew ?_ | refine Below.alloc ?_ ?_ _ | (simp; done) | (simp; omega))⟩
  · have HV := Lib.hid (sameH_no (c := c) h)
    by_cases h1 : size < at_
    · clear h
      go_enter Tryd.func13, Tryd.ntmps13
      go_wp2_with fail
      go_ret
      exact ⟨by rw [HV.out]; rfl, (Below.refl _ _).alloc (Nat.le_refl _) _⟩
    by_cases h2 : n < 0
    · clear h
      go_enter Tryd.func13, Tryd.ntmps13
      go_wp2_with fail
      go_ret
      exact ⟨by rw [HV.out]; rfl, (Below.refl _ _).alloc (Nat.le_refl _) _⟩
    by_cases h3 : 16 < n
    · clear h
      go_enter Tryd.func13, Tryd.ntmps13
      go_wp2_with fail
      go_ret
      exact ⟨by rw [HV.out]; rfl, (Below.refl _ _).alloc (Nat.le_refl _) _⟩
    · have h4 : (bs.length : Int) < n := by omega
      clear h
      go_enter Tryd.func13, Tryd.ntmps13
      go_wp2_with fail
      go_ret
      exact ⟨by rw [HV.out]; rfl, (Below.refl _ _).alloc (Nat.le_refl _) _⟩
end Go.Proofs.YtenhbjcamkbffaaDoor
