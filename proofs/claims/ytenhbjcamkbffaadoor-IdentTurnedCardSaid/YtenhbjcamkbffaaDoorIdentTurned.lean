/-
  IdentTurned, its walk.
-/
import Derived.Test.YtenhbjcamkbffaaDoorIdentTells
import Derived.Test.YtenhbjcamkbffaaDoorWithin
import Derived.Test.YtenhbjcamkbffaaDoorApp2
import Derived.Test.YtenhbjcamkbffaaDoorBurst
namespace Go.Proofs.YtenhbjcamkbffaaDoor
open Go.RowKit Go.Mem

theorem info5 : (Tryd.prog.info? 5).map (fun i => (i.zero, i.size, i.bytes)) = some (some (.int .u8 0), 1, 1) := by kernel_rfl
theorem run_take_flip (s : BitVec 32) (l : List UInt8) (q r m : Nat) (hq : q < m) (hm : m ≤ l.length) (hr : r < 8) :
    Crc.run s ((l.set q ((l[q]'(by omega)) ^^^ UInt8.ofNat (2 ^ r))).take m) = Crc.run s (l.take m) ^^^ Crc.cfn (8 * m - (8 * q + r)) 1#32 := by
  have h1 : (l.set q ((l[q]'(by omega)) ^^^ UInt8.ofNat (2 ^ r))).take m = (l.take m).set q ((l.take m)[q]'(by rw [List.length_take]; omega) ^^^ UInt8.ofNat (2 ^ r)) := by
    rw [List.take_set, List.getElem_take]
  have hl : (l.take m).length = m := by rw [List.length_take]; omega
  rw [h1, Crc.run_flip s (l.take m) q r (by omega) hr, hl]
theorem sameH_head (ds bs : List UInt8) (hl : ds.length = bs.length) (M : BitVec 32) (L : Nat) (hR : Crc.run (~~~ 0#32) (ds.take ((bs.take 16).length)) = Crc.run (~~~ 0#32) (bs.take ((bs.take 16).length)) ^^^ Crc.cfn L M) :
    sameH ((bs.take 16).length : Int) (Crc.crc 0#32 (bs.take 16)) (bs.length : Int) (bs.length : Int) ds = !nz M := by
  have h16 : (bs.take 16).length ≤ 16 ∧ (bs.take 16).length ≤ bs.length := by rw [List.length_take]; omega
  have hb : bs.take (bs.take 16).length = bs.take 16 := by rw [List.length_take, List.take_eq_take_iff]; omega
  rw [sameH_yes ⟨by omega, by omega, by omega, by omega⟩, Int.toNat_natCast]
  have h := nz_of (Crc.crc_burst 0#32 _ _ L M hR)
  rw [hb] at h
  rw [← h, bne]
  simp

set_option maxRecDepth 100000 in
set_option maxHeartbeats 3200000 in
theorem identTurned_calls (A : Option Addr) (n cap : Nat) (bs : List UInt8) (at_ : Int) (burst : BitVec 32) (w : World) (hT : Tabs w) (hl : bs.length = n) (hn : n ≤ 140737488351232) (hc : n ≤ cap) (hs : Sl w A (bs.map B8)) (hat : -9223372036854775808 ≤ at_ ∧ at_ ≤ 9223372036854775807) :
    Calls Tryd.prog 6 #[.slice A n cap, .int .i64 at_, .int .u32 (burst.toNat : Int)] w fun e w' => e = .returned (.bool true) ∧ Below w.heap.size w w' := by
  obtain ⟨i0, hi, hz0, hz1, hz2⟩ := info_parts info5
  have HSRC : Hid (∀ W : World, Below w.heap.size w W → Src Tryd.prog 1 26 (.slice A n cap) n (bs.map B8) W) := (show ∀ W : World, _ from fun W hW => srcSl Tryd.underlying26 (by simpa using hl) (hs.below hW) (bytes_one bs))
  have HH := Lib.hid (head_calls A n cap bs w hl (by omega) hc hT hs)
  have HT := Lib.hid hT
  clear hs hT
  go_enter Tryd.func6, Tryd.ntmps6
  go_wp2_with fail
  refine HH.out.mono ?_
  unfold HeadEnds
  rintro e w1 ⟨rfl, b1⟩
  rw [show headV bs = .agg #[.int .i64 ((bs.take 16).length : Int), .int .u32 ((Crc.crc 0#32 (bs.take 16)).toNat : Int)] from rfl]
  have hz16 : (bs.take 16).length ≤ 16 ∧ (bs.take 16).length ≤ n ∧ (n ≤ 16 → (bs.take 16).length = n) ∧ (16 ≤ n → (bs.take 16).length = 16) := by rw [List.length_take]; omega
  obtain ⟨hz16, hzn, hzl, hzg⟩ := hz16
  have HFIN : Hid (∀ (ds : List UInt8) (M : BitVec 32) (L : Nat), ds.length = n → Crc.run (~~~ 0#32) (ds.take ((bs.take 16).length)) = Crc.run (~~~ 0#32) (bs.take ((bs.take 16).length)) ^^^ Crc.cfn L M → sameH ((bs.take 16).length : Int) (Crc.crc 0#32 (bs.take 16)) (n : Int) (n : Int) ds = !nz M) := (show ∀ _ _ _, _ from fun ds M L h1 h2 => by have := sameH_head ds bs (by omega) M L h2; rw [hl] at this; exact this)
  have HZL := Lib.hid hzl
  have HZG := Lib.hid hzg
  generalize (bs.take 16).length = z at HFIN hz16 hzn HZL HZG ⊢
  generalize Crc.crc 0#32 (bs.take 16) = cc at HFIN ⊢
  clear HH hzl hzg
  have hb2 := b1.alloc b1.size (.cells #[.int .i64 (z : Int), .int .u32 (cc.toNat : Int)] 24)
  have HE := Lib.hid (Blk.new w1 24 #[.int .i64 (z : Int), .int .u32 (cc.toNat : Int)])
  have hle1 := b1.size
  have HOE := Lib.hid (OwnB.empty (W := w1.alloc (.cells #[.int .i64 (z : Int), .int .u32 (cc.toNat : Int)] 24)) (e := 5) (sz := 1) (g := w1.heap.size + 1) (B := w.heap.size) (by simp) (by omega))
  have HSR := Lib.hid (HSRC.out _ (hb2.alloc hb2.size (.cells #[] 5)))
  have HE1 := Lib.hid (HE.out.alloc (.cells #[] 5))
  clear HSRC HE
  go_wp2_with (at_builtin; refine wpList_append_ownK (o := ⟨some 16, _, _, _, _, _⟩) rfl (.tmp 14) (.tmp 15) 26 26 rfl 5 i0 (.int .u8 0) 1 1 Tryd.underlying26 hi hz0 hz1 hz2 rfl w.heap.size (some ⟨w1.heap.size + 1, 0, none⟩) 0 0 [] rfl HOE.out (.slice A n cap) rfl n (bs.map B8) HSR.out (by omega) (by omega) w (hb2.alloc hb2.size _) (by simp; omega) ?_)
  intro w2 D c2 HO HK hb3 hsz
  have HE2 := Lib.hid (HK.out.blk_ne HOE.out HE1.out (by decide))
  have HO2 : Hid (OwnB w2 w.heap.size 5 1 D n c2 (bs.map B8)) := (show OwnB _ _ _ _ _ _ _ _ by simpa using HO.out)
  clear HOE HSR HE1 HO HK hb2 b1 hsz
  generalize w1.heap.size = g at *
  have HT2 := Lib.hid (HT.out.below hb3)
  have hcn := HO2.out.le
  by_cases h0 : 0 < n
  · obtain ⟨g2, rest, rfl, hg2, hk, _⟩ : ∃ g2 sp, D = some ⟨g2, 0, none⟩ ∧ w.heap.size ≤ g2 ∧ Blk w2 g2 5 (bs.map B8 ++ sp) ∧ n * 1 + sp.length = c2 * 1 := by
      rcases HO2.out.2.2 with ⟨_, h, _⟩ | h
      · omega
      · exact h
    have hgg : g ≠ g2 := HE2.out.ne_ hk (by decide)
    have HK := Lib.hid hk
    clear hk HO2
    go_wp2_with fail
    refine (within_calls at_ 0 (8 * (n : Int) - 1) w2 (by omega) (by omega) (by omega) hat).mono ?_
    rintro e w3 ⟨rfl, rfl⟩
    have hw1 := within_ge at_ 0 (8 * (n : Int) - 1) (by omega)
    have hw2 := within_le at_ 0 (8 * (n : Int) - 1) (by omega)
    obtain ⟨bit, hbit⟩ := Int.eq_ofNat_of_zero_le hw1
    rw [hbit] at hw2 ⊢
    clear hw1
    have hbl : bit < 8 * n := by omega
    clear hbit hw2 hat
    go_wp2_with fail
    go_loopw [9, 11] (fun t i wr => ∃ (k : Nat) (ds : List UInt8) (M : BitVec 32), k ≤ 32 ∧ i = .int .i64 k ∧ t = .bool (nz M) ∧ Hid (ds.length = n) ∧ Hid (Crc.run (~~~ 0#32) (ds.take z) = Crc.run (~~~ 0#32) (bs.take z) ^^^ Crc.cfn (8 * z - bit) M) ∧ M.toNat < 2 ^ k ∧
        Hid (Blk wr g2 5 (ds.map B8 ++ rest)) ∧ Hid (Blk wr g 24 [.int .i64 (z : Int), .int .u32 (cc.toNat : Int)]) ∧ Below w.heap.size w wr) (fun _ i _ => 32 - (intOf i).toNat)
    case atStart => exact ⟨0, bs, 0#32, by omega, rfl, rfl, (show _ = _ from hl), (show _ = _ by rw [Crc.cfn_zero, BitVec.xor_zero]), by decide, HK, HE2, hb3⟩
    case round =>
      obtain ⟨k, ds, M, hk, rfl, rfl, HDL, HR, hM, HB, HE, hbr⟩ := hrel
      clear HK hb3 HE2 HT2
      by_cases hlt : k < 32
      · by_cases hb : burst.getLsbD k = true
        · have h1 := bandk burst k
          rw [hb] at h1
          simp only [if_true] at h1
          by_cases hin : bit + k < 8 * n
          · obtain ⟨q, hq⟩ : ∃ q, (bit + k) / 8 = q := ⟨_, rfl⟩
            obtain ⟨r, hr⟩ : ∃ r, (bit + k) % 8 = r := ⟨_, rfl⟩
            have hqn : q < n := by omega
            have hr8 : r < 8 := by omega
            have hqi : (q : Int) < n := by omega
            have e1 : IntKind.i64.wrap ((bit : Int) + (k : Int)) = (bit : Int) + (k : Int) := IntWalk.i64_in _ (by omega)
            have e2 : ((bit : Int) + (k : Int)) / 8 = (q : Int) := by omega
            have e3 : ((bit : Int) + (k : Int)) % 8 = (r : Int) := by omega
            have e4 : ((bit : Int) + (k : Int)).tdiv 8 = (q : Int) := by rw [Int.tdiv_eq_ediv_of_nonneg (by omega)]; omega
            have e5 : ((bit : Int) + (k : Int)).tmod 8 = (r : Int) := by rw [Int.tmod_eq_emod_of_nonneg (by omega)]; omega
            have hin' : (bit : Int) + (k : Int) < 8 * (n : Int) := by omega
            have hqd : q < ds.length := by rw [HDL.out]; exact hqn
            have c1 := HB.out.cell q
            rw [List.getElem?_append_left (by simpa using hqd), List.getElem?_map, List.getElem?_eq_getElem hqd] at c1
            have f1 := HB.out.frozen q
            have HFL : Hid (∀ m, q < m → m ≤ ds.length → Crc.run (~~~ 0#32) ((ds.set q (ds[q] ^^^ UInt8.ofNat (2 ^ r))).take m) = Crc.run (~~~ 0#32) (ds.take m) ^^^ Crc.cfn (8 * m - (8 * q + r)) 1#32) := (show ∀ _, _ from fun m h1 h2 => run_take_flip _ ds q r m h1 h2 hr8)
            generalize hx : ds[q] = x at c1 HFL
            clear hx
            simp only [Option.map_some, B8] at c1
            have HQ := Lib.hid hq
            have HRr := Lib.hid hr
            clear hq hr
            have h5 := bflip x r hr8
            generalize x ^^^ UInt8.ofNat (2 ^ r) = y at h5 HFL
            have HBN : Hid (Blk (wr.setCell ⟨g2, q, none⟩ (.int .u8 (y.toNat : Int))).drew g2 5 ((ds.set q y).map B8 ++ rest)) := (show Blk _ _ _ _ from by
              have h8 := (HB.out.set_ q (B8 y)).drew
              rw [List.set_append_left _ _ (by simpa using hqd), ← List.map_set] at h8
              exact h8)
            have HEN : Hid (Blk (wr.setCell ⟨g2, q, none⟩ (.int .u8 (y.toNat : Int))).drew g 24 [.int .i64 (z : Int), .int .u32 (cc.toNat : Int)]) := (show Blk _ _ _ _ from (HE.out.far (p := ⟨g2, q, none⟩) hgg _).drew)
            have HBL : Hid (Below w.heap.size w (wr.setCell ⟨g2, q, none⟩ (.int .u8 (y.toNat : Int))).drew) := Lib.hid ((hbr.setCell (p := ⟨g2, q, none⟩) (by show w.heap.size ≤ g2; omega) _).drew)
            have HLN : Hid ((ds.set q y).length = n) := (show _ = _ by rw [List.length_set]; exact HDL.out)
            by_cases hq16 : q < 16
            · have hq1 : (q : Int) < 16 := by omega
              have hqz : q < z := by
                rcases Nat.le_total n 16 with h | h
                · rw [HZL.out h]; exact hqn
                · rw [HZG.out h]; exact hq16
              have HRN : Hid (Crc.run (~~~ 0#32) ((ds.set q y).take z) = Crc.run (~~~ 0#32) (bs.take z) ^^^ Crc.cfn (8 * z - bit) (M ^^^ (1#32 <<< k))) := (show _ = _ from by
                have hQ := HQ.out
                have hR2 := HRr.out
                rw [HFL.out z hqz (by rw [HDL.out]; exact hzn), HR.out, BitVec.xor_assoc, Crc.cfn_xor, Crc.cfn_pow _ k hlt (by omega)]
                congr 3
                omega)
              have hMN := pow_step hM hlt
              have HZN := Lib.hid (nz_step hM hlt)
              clear hbr
              cases hnz : nz M
              all_goals
                have HNZ := Lib.hid hnz
                clear hnz
                go_wp2_with fail
                go_region
                go_wp2_with fail
                go_roundw
                case rel => exact ⟨k + 1, ds.set q y, M ^^^ (1#32 <<< k), by omega, by go_num, by rw [HZN.out], HLN, HRN, hMN, HBN, HEN, HBL.out⟩
                case measure => simp [intOf]; omega
            · have hq1 : ¬ (q : Int) < 16 := by omega
              have HRN : Hid (Crc.run (~~~ 0#32) ((ds.set q y).take z) = Crc.run (~~~ 0#32) (bs.take z) ^^^ Crc.cfn (8 * z - bit) M) := (show _ = _ from by
                rw [List.take_set_of_le (by omega)]; exact HR.out)
              have hMN := Nat.lt_of_lt_of_le hM (Nat.pow_le_pow_right (n := 2) (by omega) (show k ≤ k + 1 by omega))
              clear hbr
              cases hnz : nz M
              all_goals
                have HNZ := Lib.hid hnz
                clear hnz
                go_wp2_with fail
                go_region
                go_wp2_with fail
                go_roundw
                case rel => exact ⟨k + 1, ds.set q y, M, by omega, by go_num, by rw [HNZ.out]; first | done | (congr 1; exact decide_eq_false (by omega)), HLN, HRN, hMN, HBN, HEN, HBL.out⟩
                case measure => simp [intOf]; omega
          · have hin' : ¬ (bit : Int) + (k : Int) < 8 * (n : Int) := by omega
            go_wp2_with fail
            go_roundw
            case rel => exact ⟨k + 1, ds, M, by omega, by go_num, rfl, HDL, HR, Nat.lt_of_lt_of_le hM (Nat.pow_le_pow_right (by omega) (by omega)), HB, HE, hbr⟩
            case measure => simp [intOf]; omega
        · have h1 := bandk burst k
          rw [if_neg hb] at h1
          go_wp2_with fail
          go_roundw
          case rel => exact ⟨k + 1, ds, M, by omega, by go_num, rfl, HDL, HR, Nat.lt_of_lt_of_le hM (Nat.pow_le_pow_right (by omega) (by omega)), HB, HE, hbr⟩
          case measure => simp [intOf]; omega
      · have hv := HFIN.out ds M _ HDL.out HR.out
        have HS : Hid (∀ W : World, Below wr.heap.size wr W → Calls Tryd.prog 13 #[.agg #[.int .i64 (z : Int), .int .u32 (cc.toNat : Int)], .int .i64 (n : Int), .int .i64 (n : Int), .slice (some ⟨g2, 0, none⟩) n c2] W (HeldEnds W (!nz M))) := (show ∀ W : World, _ from fun W hW => by
          rw [← hv]
          exact same_calls z cc n n _ n c2 ds W HDL.out (by omega) hcn ((HT.out.below hbr).below hW) ((show Sl wr (some ⟨g2, 0, none⟩) (ds.map B8) from by
            have h := HB.out.sl.take ds.length
            rw [List.take_append_of_le_length (by simp), List.take_of_length_le (by simp)] at h
            exact h).below hW))
        have x0 := HE.out.cell 0
        have x1 := HE.out.cell 1
        simp only [List.getElem?_cons_zero, List.getElem?_cons_succ] at x0 x1
        clear hv HR hM HDL
        generalize nz M = b at *
        go_wp2_with fail
        refine (HS.out _ (Below.refl _ _)).mono ?_
        unfold HeldEnds
        rintro e w4 ⟨rfl, b4⟩
        have hB4 := hbr.trans (b4.mono hbr.size)
        have hbb : ((!b) == (!b)) = true := by simp
        go_wp2_with fail
        refine (identRuns_calls w4 (HT.out.below hB4)).mono ?_
        rintro e w5 ⟨rfl, b5⟩
        go_wp2_with fail
        go_ret
        exact ⟨rfl, hB4.trans (b5.mono hB4.size)⟩
  · obtain rfl : n = 0 := by omega
    have hb0 : bs = [] := List.eq_nil_of_length_eq_zero hl
    have hv : sameH z cc 0 0 [] = true := HFIN.out [] 0#32 0 rfl (by rw [hb0, Crc.cfn_zero, BitVec.xor_zero])
    have HS := Lib.hid (same_calls z cc 0 0 D 0 c2 [] w2 rfl (by omega) (by omega) HT2.out Sl.nil)
    rw [hv] at HS
    have x0 := HE2.out.cell 0
    have x1 := HE2.out.cell 1
    simp only [List.getElem?_cons_zero, List.getElem?_cons_succ] at x0 x1
    clear hv hb0
    go_wp2_with fail
    refine HS.out.mono ?_
    unfold HeldEnds
    rintro e w3 ⟨rfl, b3⟩
    have hB4 := hb3.trans (b3.mono hb3.size)
    go_wp2_with fail
    refine (identRuns_calls w3 (HT.out.below hB4)).mono ?_
    rintro e w4 ⟨rfl, b4⟩
    go_wp2_with fail
    go_ret
    exact ⟨rfl, hB4.trans (b4.mono hB4.size)⟩
end Go.Proofs.YtenhbjcamkbffaaDoor
