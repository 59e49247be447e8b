/-
  FrameTurned, its walk.
-/
import Derived.Test.YtenhbjcamkbffaaDoorFrameRuns
import Derived.Test.YtenhbjcamkbffaaDoorWithin
import Derived.Test.YtenhbjcamkbffaaDoorBurst
namespace Go.Frm
theorem scan_two (p q : List UInt8) (hp : p.length ≤ 262144) (hq : ¬ (q.length = 0 ∨ 262144 < q.length)) : (scan (frm p ++ frm q)).2 = (frm p ++ frm q).length := by
  by_cases h : p.length = 0 ∨ 262144 < p.length
  · rw [frm_no h, List.nil_append]
    have := scan_frms [q] [] (by intro x hx; rw [List.mem_singleton.1 hx]; exact hq) front_nil
    simp only [List.map_cons, List.map_nil, List.flatten_cons, List.flatten_nil, List.append_nil] at this
    rw [this]
  · have := scan_frms [p, q] [] (by intro x hx; simp at hx; rcases hx with rfl | rfl <;> assumption) front_nil
    simp only [List.map_cons, List.map_nil, List.flatten_cons, List.flatten_nil, List.append_nil] at this
    rw [this]
theorem scan_one (p t : List UInt8) (hp : p.length ≤ 262144) (ht : (front t).2.2 ≠ 0) : scan (frm p ++ t) = (if (frm p).length = 0 then [] else [p], (frm p).length) := by
  by_cases h : p.length = 0 ∨ 262144 < p.length
  · rw [frm_no h, List.nil_append, scan_stop ht]; rfl
  · have := scan_frms [p] t (by intro x hx; rw [List.mem_singleton.1 hx]; exact h) ht
    simp only [List.map_cons, List.map_nil, List.flatten_cons, List.flatten_nil, List.append_nil] at this
    rw [this, if_neg (by rw [frm_length h]; omega)]
theorem front_turned (q ds : List UInt8) (hq : ¬ (q.length = 0 ∨ 262144 < q.length)) (hl : ds.length = q.length) (hne : Crc.crc 0#32 (word4 q.length ++ ds) ≠ Crc.crc 0#32 (word4 q.length ++ q)) : front (word4 q.length ++ (word4 (Crc.crc 0#32 (word4 q.length ++ q)).toNat ++ ds)) = ([], 0, 6) := by
  have hu : unword (word4 q.length ++ (word4 (Crc.crc 0#32 (word4 q.length ++ q)).toNat ++ ds)) = q.length := unword_word4 _ (by omega) _
  have hlen : (word4 q.length ++ (word4 (Crc.crc 0#32 (word4 q.length ++ q)).toNat ++ ds)).length = 8 + q.length := by simp [word4_length]; omega
  have h4 : (word4 q.length ++ (word4 (Crc.crc 0#32 (word4 q.length ++ q)).toNat ++ ds)).take 4 = word4 q.length := List.take_left' rfl
  have h5 : (word4 q.length ++ (word4 (Crc.crc 0#32 (word4 q.length ++ q)).toNat ++ ds)).drop 4 = word4 (Crc.crc 0#32 (word4 q.length ++ q)).toNat ++ ds := List.drop_left' rfl
  have h8 : (word4 q.length ++ (word4 (Crc.crc 0#32 (word4 q.length ++ q)).toNat ++ ds)).drop 8 = ds := by
    have : (word4 q.length ++ (word4 (Crc.crc 0#32 (word4 q.length ++ q)).toNat ++ ds)).drop 8 = ((word4 q.length ++ (word4 (Crc.crc 0#32 (word4 q.length ++ q)).toNat ++ ds)).drop 4).drop 4 := by rw [List.drop_drop]
    rw [this, h5]; exact List.drop_left' rfl
  have hd : ds.take q.length = ds := List.take_of_length_le (by omega)
  refine front_sum (by omega) (by rw [hu]; exact hq) (by rw [hu, hlen]; omega) ?_
  rw [hu, h4, h8, h5, hd, unword_word4 _ (by exact BitVec.isLt _)]
  intro h
  exact hne (BitVec.eq_of_toNat_eq h)
end Go.Frm
namespace Go.Proofs.YtenhbjcamkbffaaDoor
open Go.RowKit Go.Mem

/-- the bytes ahead of the second payload -/
def headT (p q : List UInt8) : List UInt8 := Frm.frm p ++ (Frm.word4 q.length ++ Frm.word4 (Crc.crc 0#32 (Frm.word4 q.length ++ q)).toNat)
theorem headT_length (p q : List UInt8) : (headT p q).length = (Frm.frm p).length + 8 := by simp [headT, Frm.word4_length]
theorem headT_app (p q ds : List UInt8) : headT p q ++ ds = Frm.frm p ++ (Frm.word4 q.length ++ (Frm.word4 (Crc.crc 0#32 (Frm.word4 q.length ++ q)).toNat ++ ds)) := by simp [headT]
theorem scanT_no (p q ds : List UInt8) (M : BitVec 32) (hp : p.length ≤ 262144) (hq : ¬ (q.length = 0 ∨ 262144 < q.length)) (hd : nz M = false → ds = q) (hM : nz M = false) : (Frm.scan (headT p q ++ ds)).2 = (Frm.frm p).length + 8 + q.length := by
  have := Frm.scan_two p q hp hq
  rw [hd hM, headT_app, ← Frm.frm_yes hq, this, List.length_append, Frm.frm_length hq]
  omega
theorem scanT_yes (p q ds : List UInt8) (M : BitVec 32) (L : Nat) (hp : p.length ≤ 262144) (hq : ¬ (q.length = 0 ∨ 262144 < q.length)) (hl : ds.length = q.length) (hR : Crc.run (~~~ 0#32) (Frm.word4 q.length ++ ds) = Crc.run (~~~ 0#32) (Frm.word4 q.length ++ q) ^^^ Crc.cfn L M) (hM : nz M = true) : Frm.scan (headT p q ++ ds) = (if (Frm.frm p).length = 0 then [] else [p], (Frm.frm p).length) := by
  rw [headT_app]
  refine Frm.scan_one p _ hp ?_
  rw [Frm.front_turned q ds hq hl]
  · decide
  · intro h
    have h2 := (Crc.crc_burst 0#32 _ _ L M hR).1 h
    exact of_decide_eq_true hM h2
theorem runT_flip (wd ds : List UInt8) (j r : Nat) (hw : wd.length = 4) (hj : j < ds.length) (hr : r < 8) :
    Crc.run (~~~ 0#32) (wd ++ ds.set j (ds[j] ^^^ UInt8.ofNat (2 ^ r))) = Crc.run (~~~ 0#32) (wd ++ ds) ^^^ Crc.cfn (8 * ds.length - (8 * j + r)) 1#32 := by
  have h1 : wd ++ ds.set j (ds[j] ^^^ UInt8.ofNat (2 ^ r)) = (wd ++ ds).set (4 + j) ((wd ++ ds)[4 + j]'(by simp; omega) ^^^ UInt8.ofNat (2 ^ r)) := by
    rw [List.set_append_right _ _ (by omega), List.getElem_append_right (by omega)]
    simp [hw]
  rw [h1, Crc.run_flip _ (wd ++ ds) (4 + j) r (by simp; omega) hr, List.length_append, hw]
  congr 2
  omega

set_option maxRecDepth 100000 in
set_option maxHeartbeats 3200000 in
theorem frameTurned_calls (A E : Option Addr) (n m c d : Nat) (ps qs : List UInt8) (at_ : Int) (burst : BitVec 32) (w : World) (hT : Tabs w) (hl : ps.length = n) (hn : n ≤ 140737488351232) (hs : Sl w A (ps.map B8)) (hl2 : qs.length = m) (hm : m ≤ 140737488351232) (hp : Sl w E (qs.map B8)) (hat : -9223372036854775808 ≤ at_ ∧ at_ ≤ 9223372036854775807) :
    Calls Tryd.prog 11 #[.slice A n c, .slice E m d, .int .i64 at_, .int .u32 (burst.toNat : Int)] w fun e w' => e = .returned (.bool true) ∧ Below w.heap.size w w' := by
  have HRu : Hid (∀ W : World, Tabs W → Calls Tryd.prog 7 #[] W fun e w' => e = .returned (.bool true) ∧ Below W.heap.size W w') := (show ∀ W : World, _ from fun W hW => frameRuns_calls W hW)
  have HT := Lib.hid hT
  clear hT
  by_cases hbad : 1000 < n ∨ 1000 < m ∨ m = 0
  · have HS := Lib.hid (HRu.out w HT.out)
    go_enter Tryd.func11, Tryd.ntmps11
    by_cases h1 : 1000 < n
    · have k1 : (1000 : Int) < (n : Int) := by omega
      go_wp2_with fail
      refine HS.out.mono ?_
      rintro e w1 ⟨rfl, b1⟩
      go_wp2_with fail
      go_ret
      exact ⟨rfl, b1⟩
    · have k1 : ¬ (1000 : Int) < (n : Int) := by omega
      by_cases h2 : 1000 < m
      · have k2 : (1000 : Int) < (m : Int) := by omega
        go_wp2_with fail
        refine HS.out.mono ?_
        rintro e w1 ⟨rfl, b1⟩
        go_wp2_with fail
        go_ret
        exact ⟨rfl, b1⟩
      · obtain rfl : m = 0 := by omega
        go_wp2_with fail
        refine HS.out.mono ?_
        rintro e w1 ⟨rfl, b1⟩
        go_wp2_with fail
        go_ret
        exact ⟨rfl, b1⟩
  · have hqok : ¬ (qs.length = 0 ∨ 262144 < qs.length) := by omega
    have k1 : ¬ (1000 : Int) < (n : Int) := by omega
    have k2 : ¬ (1000 : Int) < (m : Int) := by omega
    have k3 : ¬ (m : Int) = 0 := by omega
    have hn1 : n ≤ 1000 := by omega
    have hm1 : m ≤ 1000 := by omega
    have hm0 : 0 < m := by omega
    have HPut1 := Lib.hid (put_calls none A 0 n 0 c [] ps w HT.out rfl (by decide) Sl.nil hl (by omega) hs)
    have HFL : Hid ((Frm.frm qs).length = 8 + m) := (show _ = _ by rw [Frm.frm_length hqok, hl2])
    have HNO : Hid (∀ (ds : List UInt8) (M : BitVec 32), (nz M = false → ds = qs) → nz M = false → (Frm.scan (headT ps qs ++ ds)).2 = (Frm.frm ps).length + 8 + m) := (show ∀ _ _, _ from fun ds M h1 h2 => by rw [scanT_no ps qs ds M (by omega) hqok h1 h2, hl2])
    have HYES : Hid (∀ (ds : List UInt8) (M : BitVec 32) (L : Nat), ds.length = m → Crc.run (~~~ 0#32) (Frm.word4 m ++ ds) = Crc.run (~~~ 0#32) (Frm.word4 m ++ qs) ^^^ Crc.cfn L M → nz M = true → Frm.scan (headT ps qs ++ ds) = (if (Frm.frm ps).length = 0 then [] else [ps], (Frm.frm ps).length)) := (show ∀ _ _ _, _ from fun ds M L h1 h2 h3 => scanT_yes ps qs ds M L (by omega) hqok (by omega) (by rw [hl2]; exact h2) h3)
    have hN0 : (Frm.frm ps).length ≤ 1008 := by
      by_cases hb : ps.length = 0 ∨ 262144 < ps.length
      · rw [Frm.frm_no hb]; simp
      · rw [Frm.frm_length hb]; omega
    have HHT : Hid (Frm.frm ps ++ Frm.frm qs = headT ps qs ++ qs) := (show _ = _ by rw [headT_app, Frm.frm_yes hqok])
    have HHL := Lib.hid (headT_length ps qs)
    have HP := Lib.hid hp
    have HL2 := Lib.hid hl2
    have HM := Lib.hid hm1
    clear hs hp hl hbad hqok hn hm hl2
    go_enter Tryd.func11, Tryd.ntmps11
    go_wp2_with fail
    refine HPut1.out.mono ?_
    unfold AppEnds
    rintro e w1 ⟨D1, c1, rfl, o1, b1⟩
    rw [List.nil_append] at o1 ⊢
    have HPut2 := Lib.hid (put_calls D1 E _ m c1 d (Frm.frm ps) qs w1 (HT.out.below b1) rfl (by omega) o1.sl HL2.out (by omega) (HP.out.below b1))
    have HFI : Hid ((Frm.frm ps ++ Frm.frm qs).length = (Frm.frm ps).length + 8 + m) := (show _ = _ by rw [List.length_append, HFL.out]; omega)
    rw [HFI.out, HHT.out] at HPut2
    obtain ⟨Z, hZ⟩ : ∃ Z, (Frm.frm ps).length = Z := ⟨_, rfl⟩
    obtain ⟨N, hN⟩ : ∃ N, Z + 8 + m = N := ⟨_, rfl⟩
    rw [hZ] at HPut2 HNO HYES hN0 HHL ⊢
    rw [hN] at HPut2 HNO
    have hN1 : Z + 8 + m ≤ N := by omega
    have hN2 : N ≤ Z + 8 + m := by omega
    clear HFI HFL HHT HPut1 o1 hZ hN
    generalize headT ps qs = H at *
    go_wp2_with fail
    refine HPut2.out.mono ?_
    unfold AppEnds
    rintro e w2 ⟨D2, c2, rfl, o2, b2⟩
    have B2 := b1.trans (b2.mono b1.size)
    have hc2 := o2.le
    obtain ⟨g2, rest, rfl, hg2, hk, _⟩ : ∃ g2 sp, D2 = some ⟨g2, 0, none⟩ ∧ w.heap.size ≤ g2 ∧ Blk w2 g2 5 ((H ++ qs).map B8 ++ sp) ∧ N * 1 + sp.length = c2 * 1 := by
      have hb1 := b1.size
      rcases o2.2.2 with ⟨_, h, _⟩ | h
      · omega
      · obtain ⟨g2, sp, h1, h2, h3, h4⟩ := h
        exact ⟨g2, sp, h1, by omega, h3, h4⟩
    have HK := Lib.hid hk
    clear hk o2 b1 b2 HPut2 HP
    have kz : ¬ (N : Int) ≤ (Z : Int) := by omega
    go_wp2_with fail
    refine (within_calls at_ (8 * ((Z : Int) + 8)) (8 * (N : Int) - 1) w2 (by omega) (by omega) (by omega) hat).mono ?_
    rintro e w3 ⟨rfl, rfl⟩
    have hw1 := within_ge at_ (8 * ((Z : Int) + 8)) (8 * (N : Int) - 1) (by omega)
    have hw2 := within_le at_ (8 * ((Z : Int) + 8)) (8 * (N : Int) - 1) (by omega)
    obtain ⟨bit, hbit⟩ := Int.eq_ofNat_of_zero_le (Int.le_trans (show (0 : Int) ≤ 8 * ((Z : Int) + 8) by omega) hw1)
    rw [hbit] at hw1 hw2 ⊢
    have hbg : 8 * (Z + 8) ≤ bit := by omega
    have hbl : bit < 8 * N := by omega
    have hm1 := HM.out
    clear hbit hw1 hw2 hat
    go_wp2_with fail
    go_loopw [12, 13] (fun t i wr => ∃ (k : Nat) (ds : List UInt8) (M : BitVec 32), k ≤ 32 ∧ i = .int .i64 k ∧ t = .bool (nz M) ∧ Hid (ds.length = m) ∧ Hid (nz M = false → ds = qs) ∧ Hid (Crc.run (~~~ 0#32) (Frm.word4 m ++ ds) = Crc.run (~~~ 0#32) (Frm.word4 m ++ qs) ^^^ Crc.cfn (8 * N - bit) M) ∧ M.toNat < 2 ^ k ∧
        Hid (Blk wr g2 5 ((H ++ ds).map B8 ++ rest)) ∧ Below w.heap.size w wr) (fun _ i _ => 32 - (intOf i).toNat)
    case atStart => exact ⟨0, qs, 0#32, by omega, rfl, rfl, HL2, (show _ → _ from fun _ => rfl), (show _ = _ by rw [Crc.cfn_zero, BitVec.xor_zero]), by decide, HK, B2⟩
    case round =>
      obtain ⟨k, ds, M, hk, rfl, rfl, HDL, HDQ, HR, hM, HB, hbr⟩ := hrel
      clear HK B2 HL2
      by_cases hlt : k < 32
      · by_cases hb : burst.getLsbD k = true
        · have h1 := bandk burst k
          rw [hb] at h1
          simp only [if_true] at h1
          by_cases hin : bit + k < 8 * N
          · obtain ⟨q, hq⟩ : ∃ q, (bit + k) / 8 = q := ⟨_, rfl⟩
            obtain ⟨r, hr⟩ : ∃ r, (bit + k) % 8 = r := ⟨_, rfl⟩
            have hqn : q < N := by omega
            have hqh : Z + 8 ≤ q := by omega
            have hr8 : r < 8 := by omega
            have hqi : (q : Int) < N := by omega
            have hqc : (q : Int) < c2 := by omega
            have e1 : IntKind.i64.wrap ((bit : Int) + (k : Int)) = (bit : Int) + (k : Int) := IntWalk.i64_in _ (by omega)
            have e2 : ((bit : Int) + (k : Int)) / 8 = (q : Int) := by omega
            have e3 : ((bit : Int) + (k : Int)) % 8 = (r : Int) := by omega
            have e4 : ((bit : Int) + (k : Int)).tdiv 8 = (q : Int) := by rw [Int.tdiv_eq_ediv_of_nonneg (by omega)]; omega
            have e5 : ((bit : Int) + (k : Int)).tmod 8 = (r : Int) := by rw [Int.tmod_eq_emod_of_nonneg (by omega)]; omega
            have hin' : (bit : Int) + (k : Int) < 8 * (N : Int) := by omega
            have hqd : q - (Z + 8) < ds.length := by rw [HDL.out]; omega
            have c1 := HB.out.cell q
            rw [List.getElem?_append_left (by rw [List.length_map, List.length_append, HHL.out, HDL.out]; omega), List.getElem?_map, List.getElem?_append_right (by rw [HHL.out]; exact hqh), HHL.out, List.getElem?_eq_getElem hqd] at c1
            have f1 := HB.out.frozen q
            have HRX : Hid (Crc.run (~~~ 0#32) (Frm.word4 m ++ ds.set (q - (Z + 8)) (ds[q - (Z + 8)] ^^^ UInt8.ofNat (2 ^ r))) = Crc.run (~~~ 0#32) (Frm.word4 m ++ qs) ^^^ Crc.cfn (8 * N - bit) (M ^^^ (1#32 <<< k))) := (show _ = _ from by
              rw [runT_flip (Frm.word4 m) ds _ r (Frm.word4_length m) hqd hr8, HR.out, BitVec.xor_assoc, Crc.cfn_xor, Crc.cfn_pow _ k hlt (by omega)]
              have := HDL.out
              congr 3
              omega)
            generalize hx : ds[q - (Z + 8)] = x at c1 HRX
            clear hx
            simp only [Option.map_some, B8] at c1
            have h5 := bflip x r hr8
            generalize x ^^^ UInt8.ofNat (2 ^ r) = y at h5 HRX
            have HBN : Hid (Blk (wr.setCell ⟨g2, q, none⟩ (.int .u8 (y.toNat : Int))).drew g2 5 ((H ++ ds.set (q - (Z + 8)) y).map B8 ++ rest)) := (show Blk _ _ _ _ from by
              have h8 := (HB.out.set_ q (B8 y)).drew
              rw [List.set_append_left _ _ (by rw [List.length_map, List.length_append, HHL.out, HDL.out]; omega), ← List.map_set, List.set_append_right _ _ (by rw [HHL.out]; exact hqh), HHL.out] at h8
              exact h8)
            have HBL : Hid (Below w.heap.size w (wr.setCell ⟨g2, q, none⟩ (.int .u8 (y.toNat : Int))).drew) := Lib.hid ((hbr.setCell (p := ⟨g2, q, none⟩) (by show w.heap.size ≤ g2; omega) _).drew)
            have HLN : Hid ((ds.set (q - (Z + 8)) y).length = m) := (show _ = _ by rw [List.length_set]; exact HDL.out)
            generalize ds.set (q - (Z + 8)) y = ds2 at *
            have hMN := pow_step hM hlt
            have HZN := Lib.hid (nz_step hM hlt)
            clear hbr hq hr HR HDQ hM
            cases hnz : nz M
            all_goals
              have HNZ := Lib.hid hnz
              clear hnz
              go_wp2_with fail
              go_region
              go_wp2_with fail
              go_roundw
              case rel => exact ⟨k + 1, ds2, M ^^^ (1#32 <<< k), by omega, by go_num, by rw [HZN.out], HLN, (show _ → _ from fun h => by rw [HZN.out] at h; cases h), HRX, hMN, HBN, HBL.out⟩
              case measure => simp [intOf]; omega
          · have hin' : ¬ (bit : Int) + (k : Int) < 8 * (N : Int) := by omega
            go_wp2_with fail
            go_roundw
            case rel => exact ⟨k + 1, ds, M, by omega, by go_num, rfl, HDL, HDQ, HR, Nat.lt_of_lt_of_le hM (Nat.pow_le_pow_right (by omega) (by omega)), HB, hbr⟩
            case measure => simp [intOf]; omega
        · have h1 := bandk burst k
          rw [if_neg hb] at h1
          go_wp2_with fail
          go_roundw
          case rel => exact ⟨k + 1, ds, M, by omega, by go_num, rfl, HDL, HDQ, HR, Nat.lt_of_lt_of_le hM (Nat.pow_le_pow_right (by omega) (by omega)), HB, hbr⟩
          case measure => simp [intOf]; omega
      · have HLF : Hid ((H ++ ds).length = N) := (show _ = _ by rw [List.length_append, HHL.out, HDL.out]; omega)
        have HSC := Lib.hid (scan_calls (some ⟨g2, 0, none⟩) N c2 (H ++ ds) wr (HT.out.below hbr) HLF.out hc2 (by omega) ((show Sl wr (some ⟨g2, 0, none⟩) ((H ++ ds).map B8) from by
          have h := HB.out.sl.take (H ++ ds).length
          rw [List.take_append_of_le_length (by simp), List.take_of_length_le (by simp)] at h
          exact h)))
        have HV1 : Hid (nz M = false → (Frm.scan (H ++ ds)).2 = N) := (show _ → _ from fun h => HNO.out ds M HDQ.out h)
        have HV2 : Hid (nz M = true → Frm.scan (H ++ ds) = (if Z = 0 then [] else [ps], Z)) := (show _ → _ from fun h => HYES.out ds M _ HDL.out HR.out h)
        unfold ScanEnds at HSC
        generalize Frm.scan (H ++ ds) = sc at *
        clear HR hM HDL HDQ HB HLF HNO HYES
        generalize nz M = t at *
        cases t
        · have h1 := HV1.out rfl
          rw [h1] at HSC
          clear HV1 HV2
          go_wp2_with fail
          refine HSC.out.mono ?_
          rintro e w4 ⟨D9, m9, c9, rfl, p9, b9⟩
          have B4 := hbr.trans (b9.mono hbr.size)
          clear p9 b9 HSC
          go_wp2_with fail
          refine (HRu.out w4 (HT.out.below B4)).mono ?_
          rintro e w5 ⟨rfl, b5⟩
          go_wp2_with fail
          go_ret
          exact ⟨rfl, B4.trans (b5.mono B4.size)⟩
        · have h1 := HV2.out rfl
          by_cases hZ : Z = 0
          · rw [if_pos hZ] at h1
            subst hZ
            rw [h1] at HSC
            clear HV1 HV2 h1
            go_wp2_with fail
            refine HSC.out.mono ?_
            rintro e w4 ⟨D9, m9, c9, rfl, p9, b9⟩
            have B4 := hbr.trans (b9.mono hbr.size)
            obtain rfl : m9 = 0 := p9.len.symm
            clear p9 b9 HSC
            go_wp2_with fail
            refine (HRu.out w4 (HT.out.below B4)).mono ?_
            rintro e w5 ⟨rfl, b5⟩
            go_wp2_with fail
            go_ret
            exact ⟨rfl, B4.trans (b5.mono B4.size)⟩
          · rw [if_neg hZ] at h1
            have hZ1 : (0 : Int) < (Z : Int) := by omega
            rw [h1] at HSC
            clear HV1 HV2 h1
            go_wp2_with fail
            refine HSC.out.mono ?_
            rintro e w4 ⟨D9, m9, c9, rfl, p9, b9⟩
            have B4 := hbr.trans (b9.mono hbr.size)
            obtain rfl : m9 = 1 := p9.len.symm
            clear p9 b9 HSC
            go_wp2_with fail
            refine (HRu.out w4 (HT.out.below B4)).mono ?_
            rintro e w5 ⟨rfl, b5⟩
            go_wp2_with fail
            go_ret
            exact ⟨rfl, B4.trans (b5.mono B4.size)⟩
end Go.Proofs.YtenhbjcamkbffaaDoor
