/-
  IdentGrows, its walk.
-/
import Derived.Test.YtenhbjcamkbffaaDoorIdentTells
import Derived.Test.YtenhbjcamkbffaaDoorWithin
import Derived.Test.YtenhbjcamkbffaaDoorApp2
namespace Go.Proofs.YtenhbjcamkbffaaDoor
open Go.RowKit Go.Mem

theorem infoU8 : (Tryd.prog.info? 5).map (fun i => (i.zero, i.size, i.bytes)) = some (some (.int .u8 0), 1, 1) := by kernel_rfl
theorem u8n_inj {a b : BitVec 32} (h : a = b) : ((a.toNat : Int) == (b.toNat : Int)) = true := by rw [h]; simp
/-- the head of a beginning fits what goes on -/
theorem sameH_grows (ps qs : List UInt8) (s at_ k : Nat) (hs : s ≤ ps.length) (ha : at_ ≤ k) (hk : ((ps.take s).take 16).length ≤ k) (hk2 : k ≤ (ps ++ qs).length) :
    sameH (((ps.take s).take 16).length : Int) (Crc.crc 0#32 ((ps.take s).take 16)) (at_ : Int) (k : Int) ((ps ++ qs).take k) = true := by
  have hm : ((ps.take s).take 16).length ≤ 16 := by rw [List.length_take]; omega
  have hm2 : ((ps.take s).take 16).length ≤ s := by rw [List.length_take, List.length_take]; omega
  have hlk : ((ps ++ qs).take k).length = k := by rw [List.length_take]; omega
  rw [sameH_yes ⟨by omega, by omega, by omega, by rw [hlk]; omega⟩, Int.toNat_natCast]
  refine u8n_inj ?_
  congr 1
  have e : (ps.take s).take 16 = ps.take ((ps.take s).take 16).length := by
    rw [List.take_take]
    conv => rhs; rw [List.length_take]
    rw [List.take_eq_take_iff]
    omega
  rw [List.take_take, Nat.min_eq_left hk, List.take_append_of_le_length (by omega)]
  exact e.symm
theorem sameH_self (l : List UInt8) : sameH ((l.take 16).length : Int) (Crc.crc 0#32 (l.take 16)) (l.length : Int) (l.length : Int) l = true := by
  rw [sameH_yes ⟨by omega, by omega, by rw [List.length_take]; omega, by rw [List.length_take]; omega⟩, Int.toNat_natCast]
  refine u8n_inj ?_
  congr 1
  rw [List.length_take, List.take_eq_take_iff]
  omega

set_option maxRecDepth 100000 in
set_option maxHeartbeats 3200000 in
theorem identGrows_calls (A : Option Addr) (n c : Nat) (ps : List UInt8) (E : Option Addr) (m d : Nat) (qs : List UInt8) (seen read cut : Int) (w : World) (hT : Tabs w) (hl : ps.length = n) (hn : n ≤ 1048576) (hc : n ≤ c) (hs : Sl w A (ps.map B8)) (hl2 : qs.length = m) (hm : m ≤ 1048576) (hs2 : Sl w E (qs.map B8))
    (h1 : -9223372036854775808 ≤ seen ∧ seen ≤ 9223372036854775807) (h2 : -9223372036854775808 ≤ read ∧ read ≤ 9223372036854775807) (h3 : -9223372036854775808 ≤ cut ∧ cut ≤ 9223372036854775807) :
    Calls Tryd.prog 5 #[.slice A n c, .slice E m d, .int .i64 seen, .int .i64 read, .int .i64 cut] w fun e w' => e = .returned (.bool true) ∧ Below w.heap.size w w' := by
  subst hl hl2
  obtain ⟨i0, hi, hz0, hz1, hz2⟩ := info_parts infoU8
  have HS := Lib.hid hs
  have HSRC2 : Hid (∀ W : World, Below w.heap.size w W → Src Tryd.prog 1 26 (.slice E qs.length d) qs.length (qs.map B8) W) := (show ∀ W : World, _ from fun W hW => srcSl Tryd.underlying26 (by simp) (hs2.below hW) (bytes_one qs))
  have HSRC1 : Hid (∀ W : World, Below w.heap.size w W → Src Tryd.prog 1 26 (.slice A ps.length c) ps.length (ps.map B8) W) := (show ∀ W : World, _ from fun W hW => srcSl Tryd.underlying26 (by simp) (hs.below hW) (bytes_one ps))
  have HT := Lib.hid hT
  clear hs hs2 hT
  go_enter Tryd.func5, Tryd.ntmps5
  go_wp2_with (at_builtin; refine wpList_append_ownK (o := ⟨some 17, _, _, _, _, _⟩) rfl (.tmp 15) (.tmp 16) 26 26 rfl 5 i0 (.int .u8 0) 1 1 Tryd.underlying26 hi hz0 hz1 hz2 rfl w.heap.size (some ⟨w.heap.size, 0, none⟩) 0 0 [] rfl (OwnB.empty rfl (Nat.le_refl _)) (.slice A ps.length c) rfl ps.length (ps.map B8) (HSRC1.out _ ((Below.refl _ _).alloc (Nat.le_refl _) _)) (by omega) (by omega) w ((Below.refl _ _).alloc (Nat.le_refl _) _) (by simp) ?_)
  intro w1 D1 c1 HO1 HK1 hb1 hsz1
  have HO1' : Hid (OwnB w1 w.heap.size 5 1 D1 ps.length c1 (ps.map B8)) := (show OwnB _ _ _ _ _ _ _ _ by simpa using HO1.out)
  have HX2 := Lib.hid (HSRC2.out _ hb1)
  clear HK1 HO1 hsz1 HSRC1 HSRC2
  go_wp2_with (at_builtin; refine wpList_append_ownK (o := ⟨some 19, _, _, _, _, _⟩) rfl (.tmp 17) (.tmp 18) 26 26 rfl 5 i0 (.int .u8 0) 1 1 Tryd.underlying26 hi hz0 hz1 hz2 rfl w.heap.size D1 ps.length c1 (ps.map B8) rfl HO1'.out (.slice E qs.length d) rfl qs.length (qs.map B8) HX2.out (by omega) (by omega) w hb1 hb1.size ?_)
  intro w2 D2 c2 HO2 HK2 hb2 hsz2
  have HW2 : Hid (Sl w2 D2 ((ps ++ qs).map B8)) := (show Sl _ _ _ by rw [List.map_append]; exact HO2.out.sl)
  have hcap2 := HO2.out.le
  clear HO1' HX2 HK2 HO2 hb1 hsz2
  go_wp2_with fail
  refine (within_calls seen 0 ps.length w2 (by decide) (by omega) (by omega) h1).mono ?_
  rintro e w3 ⟨rfl, rfl⟩
  have hk0 := within_ge seen 0 ps.length (by omega)
  have hk1 := within_le seen 0 ps.length (by omega)
  generalize within seen 0 ps.length = s at hk0 hk1
  obtain ⟨s, rfl⟩ := Int.eq_ofNat_of_zero_le hk0
  have hsc : (s : Int) ≤ (c : Int) := by omega
  have HT2 := Lib.hid (HT.out.below hb2)
  have HS2 : Hid (Sl w2 A ((ps.take s).map B8)) := (show Sl _ _ _ by rw [List.map_take]; exact (HS.out.below hb2).take s)
  have HSL : Hid ((ps.take s).length = s) := (show _ = _ by rw [List.length_take]; omega)
  clear h1
  go_wp2_with fail
  refine (head_calls A s c (ps.take s) w2 HSL.out (by omega) (by omega) HT2.out HS2.out).mono ?_
  unfold HeadEnds
  rintro e w4 ⟨rfl, b4⟩
  have HW4 := Lib.hid (HW2.out.below b4)
  have HT4 := Lib.hid (HT2.out.below b4)
  have hB4 := hb2.trans (b4.mono hb2.size)
  have HG1 := Lib.hid (fun (at_ k : Nat) (ha : at_ ≤ k) (hk : ((ps.take s).take 16).length ≤ k) (hk2 : k ≤ (ps ++ qs).length) => sameH_grows ps qs s at_ k (by omega) ha hk hk2)
  have hz16 : ((ps.take s).take 16).length ≤ s := by rw [List.length_take, List.length_take]; omega
  have hz17 : ((ps.take s).take 16).length ≤ 16 := by rw [List.length_take]; omega
  rw [show headV (ps.take s) = .agg #[.int .i64 (((ps.take s).take 16).length : Int), .int .u32 ((Crc.crc 0#32 ((ps.take s).take 16)).toNat : Int)] from rfl]
  generalize ((ps.take s).take 16).length = z at HG1 hz16 hz17 ⊢
  generalize Crc.crc 0#32 ((ps.take s).take 16) = cc at HG1 ⊢
  clear HW2 HT2 HS2 hb2 b4
  go_wp2_with fail
  have HE := Lib.hid (Blk.new w4 24 #[.int .i64 (z : Int), .int .u32 (cc.toNat : Int)])
  have hb5 := (Below.refl w4.heap.size w4).alloc (Nat.le_refl _) (.cells #[.int .i64 (z : Int), .int .u32 (cc.toNat : Int)] 24)
  have HW5 := Lib.hid (HW4.out.below hb5)
  have HT5 := Lib.hid (HT4.out.below hb5)
  have hB5 := hB4.trans (hb5.mono hB4.size)
  clear HW4 HT4 hB4 hb5 HT HS
  generalize w4.alloc (.cells #[.int .i64 (z : Int), .int .u32 (cc.toNat : Int)] 24) = w5 at *
  generalize w4.heap.size = g at *
  refine (within_calls read 0 ps.length w5 (by decide) (by omega) (by omega) h2).mono ?_
  rintro e w6 ⟨rfl, rfl⟩
  have hr0 := within_ge read 0 ps.length (by omega)
  have hr1 := within_le read 0 ps.length (by omega)
  generalize within read 0 ps.length = r at hr0 hr1
  obtain ⟨r, rfl⟩ := Int.eq_ofNat_of_zero_le hr0
  have e0 := HE.out.cell 0
  have e1 := HE.out.cell 1
  simp only [List.getElem?_cons_zero, List.getElem?_cons_succ] at e0 e1
  obtain ⟨N, hN⟩ : ∃ N, ps.length + qs.length = N := ⟨_, rfl⟩
  have HNL : Hid ((ps ++ qs).length = N) := (show _ = _ by rw [List.length_append, hN])
  have hrN : r ≤ N := by omega
  have hNc : N ≤ c2 := by omega
  have hN2 : N ≤ 2097152 := by omega
  have hzN : z ≤ N := by omega
  have HG2 := Lib.hid (sameH_self (ps ++ qs))
  have HG3 := Lib.hid HG1.out
  rw [HNL.out] at HG2
  rw [hN]
  clear h2 hN HG1
  generalize ps ++ qs = wh at *
  go_wp2_with fail
  have hv1 : sameH z cc r N wh = true := by have h := HG3.out r N hrN hzN (by rw [HNL.out]; exact Nat.le_refl _); rw [List.take_of_length_le (by rw [HNL.out]; exact Nat.le_refl _)] at h; exact h
  have HS1 := Lib.hid (same_calls z cc r N D2 N c2 wh w5 HNL.out (by omega) hNc HT5.out HW5.out)
  rw [hv1] at HS1
  clear hv1
  refine HS1.out.mono ?_
  unfold HeldEnds
  rintro e w6 ⟨rfl, b6⟩
  have HW6 := Lib.hid (HW5.out.below b6)
  have HT6 := Lib.hid (HT5.out.below b6)
  have HE6 := Lib.hid (HE.out.below b6 HE.out.lt)
  have hB6 := hB5.trans (b6.mono hB5.size)
  clear HW5 HT5 HE hB5 b6 HS1 e0 e1
  go_wp2_with fail
  refine (head_calls D2 N c2 wh w6 HNL.out (by omega) hNc HT6.out HW6.out).mono ?_
  unfold HeadEnds
  rintro e w7 ⟨rfl, b7⟩
  have HW7 := Lib.hid (HW6.out.below b7)
  have HT7 := Lib.hid (HT6.out.below b7)
  have HE7 := Lib.hid (HE6.out.below b7 HE6.out.lt)
  have hB7 := hB6.trans (b7.mono hB6.size)
  have HS2 := Lib.hid (same_calls ((wh.take 16).length : Int) (Crc.crc 0#32 (wh.take 16)) N N D2 N c2 wh w7 HNL.out (by omega) hNc HT7.out HW7.out)
  rw [HG2.out] at HS2
  rw [show headV wh = .agg #[.int .i64 ((wh.take 16).length : Int), .int .u32 ((Crc.crc 0#32 (wh.take 16)).toNat : Int)] from rfl]
  generalize (wh.take 16).length = z2 at HS2 ⊢
  generalize Crc.crc 0#32 (wh.take 16) = cc2 at HS2 ⊢
  clear HW6 HT6 HE6 hB6 b7 HG2
  go_wp2_with fail
  refine HS2.out.mono ?_
  unfold HeldEnds
  rintro e w8 ⟨rfl, b8⟩
  have HW8 := Lib.hid (HW7.out.below b8)
  have HT8 := Lib.hid (HT7.out.below b8)
  have HE8 := Lib.hid (HE7.out.below b8 HE7.out.lt)
  have hB8 := hB7.trans (b8.mono hB7.size)
  clear HW7 HT7 HE7 hB7 b8 HS2
  go_wp2_with fail
  refine (within_calls cut 0 N w8 (by decide) (by omega) (by omega) h3).mono ?_
  rintro e w9 ⟨rfl, rfl⟩
  have hk0 := within_ge cut 0 N (by omega)
  have hk1 := within_le cut 0 N (by omega)
  generalize within cut 0 N = k at hk0 hk1
  obtain ⟨k, rfl⟩ := Int.eq_ofNat_of_zero_le hk0
  have hkN : k ≤ N := by omega
  have hkc : (k : Int) ≤ (c2 : Int) := by omega
  have HWK : Hid (∀ W : World, Below w8.heap.size w8 W → Sl W D2 ((wh.take k).map B8)) := (show ∀ W : World, _ from fun W hW => by rw [List.map_take]; exact (HW8.out.below hW).take k)
  have HLK : Hid ((wh.take k).length = k) := (show _ = _ by rw [List.length_take, HNL.out]; omega)
  have HS3 : Hid (∀ W : World, Below w8.heap.size w8 W → Calls Tryd.prog 13 #[.agg #[.int .i64 (z : Int), .int .u32 (cc.toNat : Int)], .int .i64 (r : Int), .int .i64 (k : Int), .slice D2 k c2] W (HeldEnds W (sameH z cc r k (wh.take k)))) :=
    (show ∀ W : World, _ from fun W hW => same_calls z cc r k D2 k c2 (wh.take k) W HLK.out (by omega) (by omega) (HT8.out.below hW) (HWK.out W hW))
  have HRu : Hid (∀ W : World, Below w8.heap.size w8 W → Calls Tryd.prog 3 #[] W (HeldEnds W true)) := (show ∀ W : World, _ from fun W hW => identRuns_calls W (HT8.out.below hW))
  have x0 := HE8.out.cell 0
  have x1 := HE8.out.cell 1
  simp only [List.getElem?_cons_zero, List.getElem?_cons_succ] at x0 x1
  have hB0 := Below.refl w8.heap.size w8
  clear h3 HW8 HT8 HE8 hk0 hk1
  by_cases hkr : k < r
  · have hv : sameH z cc r k (wh.take k) = false := sameH_no (by omega)
    rw [hv] at HS3
    have hd1 : decide ((k : Int) < (r : Int)) = true := decide_eq_true (by omega)
    have hn1 : decide (k < r) = true := decide_eq_true (by omega)
    have hd2 : decide ((r : Int) ≤ (k : Int)) = false := decide_eq_false (by omega)
    have hn2 : decide (r ≤ k) = false := decide_eq_false (by omega)
    clear hv HG3
    go_wp2_with fail
    go_region_held3 (fun w' => Below w8.heap.size w8 w' ∧ w'.cell? ⟨g, 0, none⟩ = some (.int .i64 (z : Int)) ∧ w'.cell? ⟨g, 1, none⟩ = some (.int .u32 (cc.toNat : Int))) (first | (exact ⟨hBz, keep_below hBz x0, keep_below hBz x1⟩) | (exact ⟨hBz.drew, keep_below hBz.drew x0, keep_below hBz.drew x1⟩) | (exact ⟨hB0.drew, x0, x1⟩)) (first | (go_at_call 13; (with_reducible refine (HS3.out _ (by first | exact hBz | exact hBz.drew | exact hB0.drew | exact hB0)).mono ?_); unfold HeldEnds; rintro e wz ⟨rfl, hbz⟩; have hBz := stepB (by first | exact hBz | exact hBz.drew | exact hB0.drew | exact hB0) hbz))
    go_wp2_with fail
    go_quiet (fail)
    go_wp2_with fail
    refine (HRu.out _ (below_drewN hBz _)).mono ?_
    unfold HeldEnds
    rintro e wr ⟨rfl, br⟩
    go_wp2_with fail
    go_ret
    exact ⟨rfl, hB8.trans ((stepB (below_drewN hBz _) br).mono hB8.size)⟩
  · have hd1 : decide ((k : Int) < (r : Int)) = false := decide_eq_false (by omega)
    have hn1 : decide (k < r) = false := decide_eq_false (by omega)
    have hd2 : decide ((r : Int) ≤ (k : Int)) = true := decide_eq_true (by omega)
    have hn2 : decide (r ≤ k) = true := decide_eq_true (by omega)
    by_cases hkz : z ≤ k
    · have hv : sameH z cc r k (wh.take k) = true := HG3.out r k (by omega) hkz (by rw [HNL.out]; omega)
      rw [hv] at HS3
      have hd3 : decide ((z : Int) ≤ (k : Int)) = true := decide_eq_true (by omega)
      have hn3 : decide (z ≤ k) = true := decide_eq_true (by omega)
      clear hv HG3
      go_wp2_with fail
      go_quiet (fail)
      go_wp2_with fail
      have hB0' := fun q => below_drewN hB0 q
      go_region_held3 (fun w' => Below w8.heap.size w8 w' ∧ w'.cell? ⟨g, 0, none⟩ = some (.int .i64 (z : Int)) ∧ w'.cell? ⟨g, 1, none⟩ = some (.int .u32 (cc.toNat : Int))) (first | (exact ⟨hBz, keep_below hBz x0, keep_below hBz x1⟩) | (exact ⟨hBz.drew, keep_below hBz.drew x0, keep_below hBz.drew x1⟩) | (exact ⟨(hB0' _).drew, x0, x1⟩)) (first | (go_at_call 13; (with_reducible refine (HS3.out _ (by first | exact hBz | exact hBz.drew | exact (hB0' _).drew | exact hB0' _)).mono ?_); unfold HeldEnds; rintro e wz ⟨rfl, hbz⟩; have hBz := stepB (by first | exact hBz | exact hBz.drew | exact (hB0' _).drew | exact hB0' _) hbz))
      go_wp2_with fail
      refine (HRu.out _ hBz).mono ?_
      unfold HeldEnds
      rintro e wr ⟨rfl, br⟩
      go_wp2_with fail
      go_ret
      exact ⟨rfl, hB8.trans ((stepB hBz br).mono hB8.size)⟩
    · have hd3 : decide ((z : Int) ≤ (k : Int)) = false := decide_eq_false (by omega)
      have hn3 : decide (z ≤ k) = false := decide_eq_false (by omega)
      clear HG3
      go_wp2_with fail
      go_quiet (fail)
      go_wp2_with fail
      go_quiet (fail)
      go_wp2_with fail
      refine (HRu.out _ (below_drewN hB0 _)).mono ?_
      unfold HeldEnds
      rintro e wr ⟨rfl, br⟩
      go_wp2_with fail
      go_ret
      exact ⟨rfl, hB8.trans ((stepB (below_drewN hB0 _) br).mono hB8.size)⟩
end Go.Proofs.YtenhbjcamkbffaaDoor
