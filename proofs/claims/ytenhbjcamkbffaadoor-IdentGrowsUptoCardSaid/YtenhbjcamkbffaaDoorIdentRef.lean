/-
  spoorref24.Head and Same.
-/
import Derived.Test.YtenhbjcamkbffaaDoorIdent
namespace Go.Proofs.YtenhbjcamkbffaaDoor
open Go.RowKit Go.Mem

theorem quietEq {P : Program} {f : FuncId} {args : Array Value} {w : World} {n : Nat} {v : Value} (h : Calls P f args (w.drewN n) fun e w' => e = .returned v ∧ w.drewN n = w') : Calls P f args (w.drewN n) fun e w'' => e = .returned v ∧ ∃ m, w'' = w.drewN m :=
  h.mono fun _ _ ⟨he, hm⟩ => ⟨he, n, hm.symm⟩

set_option maxHeartbeats 800000 in
theorem refHead_calls (A : Option Addr) (n cap : Nat) (bs : List UInt8) (w : World) (hl : bs.length = n) (hn : n ≤ 9223372036854775807) (hc : n ≤ cap) (hs : Sl w A (bs.map B8)) :
    Calls Tryd.prog 15 #[.slice A n cap] w (HeadEnds w bs) := by
  subst hl
  have hs1 : Sl w A ((bs.take 16).map B8) := by rw [List.map_take]; exact hs.take 16
  have HB := Lib.hid (((Below.refl w.heap.size w).alloc (Nat.le_refl _) (.cells #[.int .i64 0, .int .u32 0] 24)))
  by_cases h : bs.length ≤ 16
  · have HV : Hid (headV bs = .agg #[.int .i64 (bs.length : Int), .int .u32 ((Crc.crc 0#32 (bs.take 16)).toNat : Int)]) := (show _ = _ by unfold headV; rw [List.length_take, Nat.min_eq_right h])
    have HL : Hid ((bs.take 16).length = bs.length) := (show _ = _ by rw [List.length_take, Nat.min_eq_right h])
    have HO := Lib.hid (refOn_calls 0#32 A bs.length cap (bs.take 16) (w.alloc (.cells #[.int .i64 0, .int .u32 0] 24)) HL.out (by omega) (hs1.alloc _))
    generalize Crc.crc 0#32 (bs.take 16) = cc at HV HO
    have hlt : ¬ (16 : Int) < (bs.length : Int) := by omega
    go_enter Tryd.func15, Tryd.ntmps15
    go_wp2_with fail
    refine HO.out.mono ?_
    rintro e w2 ⟨rfl, rfl⟩
    go_wp2_with fail
    exact bodyPost_ret (v := .agg #[.int .i64 (bs.length : Int), .int .u32 (cc.toNat : Int)]) (by simp [results, Tryd.results15, go_sem]) rfl ⟨by rw [HV.out], (Below.refl _ _).alloc (Nat.le_refl _) _⟩
  · have HV : Hid (headV bs = .agg #[.int .i64 16, .int .u32 ((Crc.crc 0#32 (bs.take 16)).toNat : Int)]) := (show _ = _ by unfold headV; rw [List.length_take, Nat.min_eq_left (by omega)]; rfl)
    have HL : Hid ((bs.take 16).length = 16) := (show _ = _ by rw [List.length_take, Nat.min_eq_left (by omega)])
    have HO := Lib.hid (refOn_calls 0#32 A 16 cap (bs.take 16) (w.alloc (.cells #[.int .i64 0, .int .u32 0] 24)) HL.out (by omega) (hs1.alloc _))
    generalize Crc.crc 0#32 (bs.take 16) = cc at HV HO
    have hlt : (16 : Int) < (bs.length : Int) := by omega
    have hcap : (16 : Int) ≤ (cap : Int) := by omega
    go_enter Tryd.func15, Tryd.ntmps15
    go_wp2_with fail
    refine HO.out.mono ?_
    rintro e w2 ⟨rfl, rfl⟩
    go_wp2_with fail
    exact bodyPost_ret (v := .agg #[.int .i64 16, .int .u32 (cc.toNat : Int)]) (by simp [results, Tryd.results15, go_sem]) rfl ⟨by rw [HV.out], (Below.refl _ _).alloc (Nat.le_refl _) _⟩

set_option maxHeartbeats 1600000 in
theorem refSame_calls (n : Int) (c : BitVec 32) (at_ size : Int) (A : Option Addr) (m cap : Nat) (bs : List UInt8) (w : World) (hl : bs.length = m) (hm : m ≤ 9223372036854775807) (hc : m ≤ cap) (hs : Sl w A (bs.map B8)) :
    Calls Tryd.prog 16 #[.agg #[.int .i64 n, .int .u32 (c.toNat : Int)], .int .i64 at_, .int .i64 size, .slice A m cap] w (HeldEnds w (sameH n c at_ size bs)) := by
  subst hl
  have HB := Lib.hid (((Below.refl w.heap.size w).alloc (Nat.le_refl _) (.cells #[.int .i64 n, .int .u32 (c.toNat : Int)] 24)))
  by_cases h : at_ ≤ size ∧ 0 ≤ n ∧ n ≤ 16 ∧ n ≤ (bs.length : Int)
  · have HV := Lib.hid (sameH_yes (c := c) h)
    obtain ⟨h1, h2, h3, h4⟩ := h
    obtain ⟨k, rfl⟩ := Int.eq_ofNat_of_zero_le h2
    have hk : k ≤ bs.length := by omega
    have hkc : (k : Int) ≤ (cap : Int) := by omega
    have HL : Hid ((bs.take k).length = k) := (show _ = _ by rw [List.length_take, Nat.min_eq_left hk])
    have hs1 : Sl w A ((bs.take k).map B8) := by rw [List.map_take]; exact hs.take k
    rw [Int.toNat_natCast] at HV
    have HO := Lib.hid (fun (W : World) (hW : Below w.heap.size w W) => refOn_calls 0#32 A k cap (bs.take k) W HL.out (by omega) (hs1.below hW))
    generalize Crc.crc 0#32 (bs.take k) = cc at HV HO
    go_enter Tryd.func16, Tryd.ntmps16
    go_wp2_with fail
    go_quiet ((go_at_call 28; exact quietEq (HO.out _ (below_drewN HB.out _))))
    go_wp2_with fail
    go_ret
    exact ⟨by rw [HV.out]; first | rfl | simp, below_drewN HB.out _⟩
  · have HV := Lib.hid (sameH_no (c := c) h)
    by_cases h1 : size < at_
    · clear h
      have hq0 : decide (at_ ≤ size) = false := decide_eq_false (by omega)
      go_enter Tryd.func16, Tryd.ntmps16
      go_wp2_with fail
      go_quiet (fail)
      go_wp2_with fail
      go_ret
      exact ⟨by rw [HV.out]; rfl, below_drewN HB.out _⟩
    by_cases h2 : n < 0
    · clear h
      have hq0 : decide (at_ ≤ size) = true := decide_eq_true (by omega)
      have hq1 : decide (0 ≤ n) = false := decide_eq_false (by omega)
      go_enter Tryd.func16, Tryd.ntmps16
      go_wp2_with fail
      go_quiet (fail)
      go_wp2_with fail
      go_ret
      exact ⟨by rw [HV.out]; rfl, below_drewN HB.out _⟩
    by_cases h3 : (bs.length : Int) < n
    · clear h
      have hq0 : decide (at_ ≤ size) = true := decide_eq_true (by omega)
      have hq1 : decide (0 ≤ n) = true := decide_eq_true (by omega)
      have hq2 : decide (n ≤ (bs.length : Int)) = false := decide_eq_false (by omega)
      go_enter Tryd.func16, Tryd.ntmps16
      go_wp2_with fail
      go_quiet (fail)
      go_wp2_with fail
      go_ret
      exact ⟨by rw [HV.out]; rfl, below_drewN HB.out _⟩
    · have h4 : 16 < n := by omega
      clear h
      have hq0 : decide (at_ ≤ size) = true := decide_eq_true (by omega)
      have hq1 : decide (0 ≤ n) = true := decide_eq_true (by omega)
      have hq2 : decide (n ≤ (bs.length : Int)) = true := decide_eq_true (by omega)
      have hq3 : decide (n ≤ 16) = false := decide_eq_false (by omega)
      go_enter Tryd.func16, Tryd.ntmps16
      go_wp2_with fail
      go_quiet (fail)
      go_wp2_with fail
      go_ret
      exact ⟨by rw [HV.out]; rfl, below_drewN HB.out _⟩
end Go.Proofs.YtenhbjcamkbffaaDoor
