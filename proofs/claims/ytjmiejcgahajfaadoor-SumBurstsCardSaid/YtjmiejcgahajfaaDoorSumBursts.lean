/-
  SumBursts, its walk.
-/
import Derived.Test.YtjmiejcgahajfaaDoorSumRuns
import Derived.Test.YtjmiejcgahajfaaDoorWithin
namespace Go.Proofs.YtjmiejcgahajfaaDoor
open Go.RowKit Go.Mem

theorem info5 : (Tryd.prog.info? 5).map (fun i => (i.zero, i.size, i.bytes)) = some (some (.int .u8 0), 1, 1) := by kernel_rfl

theorem bandk (a : BitVec 32) (k : Nat) : bits .and .u32 ((a.toNat : Int) / 2 ^ k) 1 = if a.getLsbD k then 1 else 0 := by
  have e : ((a.toNat : Int) / 2 ^ k) = ((a.toNat / 2 ^ k : Nat) : Int) := by simp
  have h1 : bits .and .u32 ((a.toNat / 2 ^ k : Nat) : Int) 1 = ((a.toNat / 2 ^ k &&& 1 : Nat) : Int) := u32_and_nat _ 1 (Nat.lt_of_le_of_lt (Nat.div_le_self _ _) a.isLt) (by decide)
  rw [e, h1, nat_mask1, BitVec.getLsbD, Nat.testBit_eq_decide_div_mod_eq]
  rcases Nat.mod_two_eq_zero_or_one (a.toNat / 2 ^ k) with h | h <;> simp [h]
def nz (M : BitVec 32) : Bool := decide (M ≠ 0#32)
theorem bflip (x : UInt8) (r : Nat) (hr : r < 8) : bits .xor .u8 (x.toNat : Int) (2 ^ r % 256) = ((x ^^^ UInt8.ofNat (2 ^ r)).toNat : Int) := by
  have hp : (UInt8.ofNat (2 ^ r)).toNat = 2 ^ r := by
    rw [UInt8.toNat_ofNat']
    have : ∀ j : Fin 8, 2 ^ j.val % 2 ^ 8 = 2 ^ j.val := by decide
    exact this ⟨r, hr⟩
  have h2 : ((2 : Int) ^ r % 256) = ((2 ^ r : Nat) : Int) := by
    have : ∀ j : Fin 8, ((2 : Int) ^ j.val % 256) = ((2 ^ j.val : Nat) : Int) := by decide
    exact this ⟨r, hr⟩
  have h3 : 2 ^ r < 256 := by
    have : ∀ j : Fin 8, 2 ^ j.val < 256 := by decide
    exact this ⟨r, hr⟩
  rw [h2, u8_xor_nat _ _ x.toNat_lt h3, UInt8.toNat_xor, hp]
theorem pow_step {M : BitVec 32} {k : Nat} (hM : M.toNat < 2 ^ k) (hk : k < 32) : (M ^^^ (1#32 <<< k)).toNat < 2 ^ (k + 1) := by
  have hs : (1#32 <<< k).toNat = 2 ^ k := by
    have : ∀ j : Fin 32, (1#32 <<< j.val).toNat = 2 ^ j.val := by decide
    exact this ⟨k, hk⟩
  rw [BitVec.toNat_xor, hs]
  exact Nat.xor_lt_two_pow (Nat.lt_of_lt_of_le hM (Nat.pow_le_pow_right (by omega) (by omega))) (Nat.pow_lt_pow_right (by omega) (by omega))
theorem nz_step {M : BitVec 32} {k : Nat} (hM : M.toNat < 2 ^ k) (hk : k < 32) : nz (M ^^^ (1#32 <<< k)) = true := by
  refine decide_eq_true fun h => ?_
  have h1 : (M ^^^ (1#32 <<< k)).getLsbD k = false := by rw [h]; simp
  rw [BitVec.getLsbD_xor, BitVec.getLsbD, Nat.testBit_lt_two_pow hM, BitVec.getLsbD_shiftLeft] at h1
  simp [hk] at h1
theorem nz_of {a b M : BitVec 32} (h : a = b ↔ M = 0#32) : ((a.toNat : Int) != (b.toNat : Int)) = nz M := by
  unfold nz
  by_cases e : a = b
  · rw [decide_eq_false (fun hn => hn (h.1 e)), e]; simp
  · have h3 : M ≠ 0#32 := fun hn => e (h.2 hn)
    rw [decide_eq_true h3, bne_iff_ne]
    intro h2
    exact e (BitVec.eq_of_toNat_eq (by omega))
set_option maxHeartbeats 1600000 in
theorem sumBursts_some (A : Option Addr) (n cap : Nat) (bs : List UInt8) (at_ : Int) (burst : BitVec 32) (w : World) (hT : Tabs w) (hl : bs.length = n) (hn : n ≤ 140737488351232) (hn0 : 0 < n) (hs : Sl w A (bs.map B8)) (hat : -9223372036854775808 ≤ at_ ∧ at_ ≤ 9223372036854775807) :
    Calls Tryd.prog 7 #[.slice A n cap, .int .i64 at_, .int .u32 (burst.toNat : Int)] w fun e w' => e = .returned (.bool true) ∧ Below w.heap.size w w' := by
  obtain ⟨i0, hi, hz0, hz1, hz2⟩ := info_parts info5
  have hn1 : ((n : Int) == 0) = false := beq_eq_false_iff_ne.2 (by omega)
  go_enter Tryd.func7, Tryd.ntmps7
  obtain ⟨b0, o0, rfl, _⟩ := hs.byte (k := 0) (by omega)
  go_wp2_with (at_builtin; refine wpList_append_grows _ rfl (.tmp 21) (.tmp 22) 26 rfl 5 i0 (.int .u8 0) 1 1 Tryd.underlying26 hi hz0 hz1 hz2 rfl (by decide) (some ⟨w.heap.size, 0, none⟩) 0 0 [] rfl (fun h => by cases h) rfl (by intro _ _ _ _ h; simp at h) ⟨b0, o0, none⟩ n cap (bs.map B8) rfl (by simpa using hl) ?c1 ?c2 (by omega) (by unfold maxLen; omega) (by omega) ?grow)
  case c1 =>
    intro j u hj
    obtain ⟨b', o', e, hc⟩ := hs.alloc (.cells #[] 5) j u (by simpa using hj)
    obtain ⟨rfl, rfl⟩ : b0 = b' ∧ o0 = o' := by injection e with e; injection e with e1 e2; exact ⟨e1, e2⟩
    rw [Addr.add_lit]; exact hc
  case c2 => intro u hu; obtain ⟨x, _, rfl⟩ := List.mem_map.1 hu; rfl
  case grow =>
    intro v' w1 hown hgrow
    have hbel : Below w.heap.size w w1 := ((Below.refl _ _).alloc (Nat.le_refl _) _).grown hgrow (by simp) (fun k h => by cases h)
    obtain ⟨g, cap', rest, rfl, hg, hk⟩ : ∃ g cap' rest, v' = .slice (some ⟨g, 0, none⟩) n cap' ∧ w.heap.size + 1 ≤ g ∧ Blk w1 g 5 (bs.map B8 ++ rest) := by
      obtain ⟨h1, h2⟩ := hown
      rcases h2 with ⟨_, h2⟩ | ⟨g, cap', cur, rfl, hg, hh, _, _, _, ht⟩
      · omega
      · refine ⟨g, cap', cur.toList.drop n, by simp, hg, ?_⟩
        have e : bs.map B8 ++ cur.toList.drop n = cur.toList := by
          have h3 := List.take_append_drop n cur.toList
          simp only [Nat.mul_one] at ht
          rw [ht] at h3
          exact h3
        unfold Blk
        rw [e]; exact hh
    clear hown hgrow
    go_wp2_with fail
    refine (within_calls at_ 0 (8 * (n : Int) - 1) w1 (by omega) (by omega) (by omega) hat).mono ?_
    rintro e w2 ⟨rfl, rfl⟩
    have hw1 := within_ge at_ 0 (8 * (n : Int) - 1) (by omega)
    have hw2 := within_le at_ 0 (8 * (n : Int) - 1) (by omega)
    obtain ⟨bit, hbit⟩ := Int.eq_ofNat_of_zero_le hw1
    rw [hbit] at hw2 ⊢
    clear hw1
    have hbl : bit < 8 * n := by omega
    clear hbit hw2
    have HK := Lib.hid hk
    clear hk
    go_wp2_with fail
    go_loopw [9, 10] (fun t i wr => ∃ (k : Nat) (ds : List UInt8) (M : BitVec 32), k ≤ 32 ∧ i = .int .i64 k ∧ t = .bool (nz M) ∧ ds.length = n ∧ Hid (Crc.run (~~~ 0#32) ds = Crc.run (~~~ 0#32) bs ^^^ Crc.cfn (8 * n - bit) M) ∧ M.toNat < 2 ^ k ∧
        Hid (Blk wr g 5 (ds.map B8 ++ rest)) ∧ Below w.heap.size w wr) (fun _ i _ => 32 - (intOf i).toNat)
    case atStart => exact ⟨0, bs, 0#32, by omega, rfl, rfl, hl, (show _ = _ by rw [Crc.cfn_zero, BitVec.xor_zero]), by decide, HK, hbel⟩
    case round =>
      obtain ⟨k, ds, M, hk, rfl, rfl, hdl, HR, hM, HB, hbr⟩ := hrel
      clear HK hbel
      by_cases hlt : k < 32
      · by_cases hb : burst.getLsbD k = true
        · have h1 := bandk burst k
          rw [hb] at h1
          simp only [if_true] at h1
          by_cases hin : bit + k < 8 * n
          · obtain ⟨q, hq⟩ : ∃ q, (bit + k) / 8 = q := ⟨_, rfl⟩
            obtain ⟨r, hr⟩ : ∃ r, (bit + k) % 8 = r := ⟨_, rfl⟩
            have hqn : q < n := by omega
            have hr8 : r < 8 := by omega
            have hqi : (q : Int) < n := by omega
            have e1 : IntKind.i64.wrap ((bit : Int) + (k : Int)) = (bit : Int) + (k : Int) := IntWalk.i64_in _ (by omega)
            have e2 : ((bit : Int) + (k : Int)) / 8 = (q : Int) := by omega
            have e3 : ((bit : Int) + (k : Int)) % 8 = (r : Int) := by omega
            have e4 : ((bit : Int) + (k : Int)).tdiv 8 = (q : Int) := by rw [Int.tdiv_eq_ediv_of_nonneg (by omega)]; omega
            have e5 : ((bit : Int) + (k : Int)).tmod 8 = (r : Int) := by rw [Int.tmod_eq_emod_of_nonneg (by omega)]; omega
            have hin' : (bit : Int) + (k : Int) < 8 * (n : Int) := by omega
            have c1 := HB.out.cell q
            rw [List.getElem?_append_left (by simpa [hdl] using hqn), List.getElem?_map, List.getElem?_eq_getElem (by rw [hdl]; exact hqn)] at c1
            have f1 := HB.out.frozen q
            generalize hx : ds[q]'(by rw [hdl]; exact hqn) = x at c1
            have HX := Lib.hid hx
            clear hx
            simp only [Option.map_some, B8] at c1
            have HQ := Lib.hid hq
            have HRr := Lib.hid hr
            clear hq hr
            have h5 := bflip x r hr8
            generalize hy : x ^^^ UInt8.ofNat (2 ^ r) = y at h5
            have HY := Lib.hid hy
            clear hy
            go_wp2_with fail
            go_region
            go_wp2_with fail
            go_roundw
            case rel =>
              refine ⟨k + 1, ds.set q y, M ^^^ (1#32 <<< k), by omega, by go_num, ?_, by simpa using hdl, ?_, ?_, ?_, ?_⟩
              · rw [nz_step hM hlt]
              · show _ = _
                have hqd : q < ds.length := by omega
                have h7 : ds.set q y = ds.set q (ds[q] ^^^ UInt8.ofNat (2 ^ r)) := by rw [← HY.out, HX.out]
                have hQ := HQ.out
                have hR2 := HRr.out
                rw [h7, Crc.run_flip _ ds q r hqd hr8, HR.out, BitVec.xor_assoc, Crc.cfn_xor, Crc.cfn_pow _ k hlt (by omega)]
                congr 3
                omega
              · exact pow_step hM hlt
              · show Blk _ _ _ _
                have h8 := (HB.out.set_ q (B8 y)).drew
                rw [List.set_append_left _ _ (by simpa [hdl] using hqn), ← List.map_set] at h8
                exact h8
              · exact (hbr.setCell (p := ⟨g, q, none⟩) (by show w.heap.size ≤ g; omega) _).drew
            case measure => simp [intOf]; omega
          · have hin' : ¬ (bit : Int) + (k : Int) < 8 * (n : Int) := by omega
            go_wp2_with fail
            go_roundw
            case rel => exact ⟨k + 1, ds, M, by omega, by go_num, rfl, hdl, HR, Nat.lt_of_lt_of_le hM (Nat.pow_le_pow_right (by omega) (by omega)), HB, hbr⟩
            case measure => simp [intOf]; omega
        · have h1 := bandk burst k
          rw [if_neg hb] at h1
          go_wp2_with fail
          go_roundw
          case rel => exact ⟨k + 1, ds, M, by omega, by go_num, rfl, hdl, HR, Nat.lt_of_lt_of_le hM (Nat.pow_le_pow_right (by omega) (by omega)), HB, hbr⟩
          case measure => simp [intOf]; omega
      · have HC := Lib.hid (Crc.crc_burst 0#32 ds bs (8 * n - bit) M HR.out)
        have hlw : w.heap.size < wr.heap.size := by have := HB.out.lt; omega
        have hb1 : Below wr.heap.size wr (wr.alloc (.cells #[.slice (some ⟨g, 0, none⟩) n cap'] 26)) := (Below.refl _ _).alloc (Nat.le_refl _) _
        have hd1 : Sl wr (some ⟨g, 0, none⟩) (ds.map B8) := by
          have h := HB.out.sl.take ds.length
          rw [List.take_append_of_le_length (by simp), List.take_of_length_le (by simp)] at h
          exact h
        have hs1 := hs.below hbr
        have hT1 := hT.below hbr
        clear HR hM HB
        go_wp2_with fail
        refine (toQ (of_calls _ 1 1 [⟨some ⟨g, 0, none⟩, cap', ds⟩] _ rfl (by decide) (hT1.below hb1) (Sl.new rfl (by subst hdl; rfl)) (by
          intro p hp
          obtain rfl := List.mem_singleton.1 hp
          exact ⟨by simp only; omega, hd1.alloc _⟩))).mono ?_
        rintro e w2 ⟨rfl, q2⟩
        rw [show Crc.crcs 0#32 (List.map Part.bs [⟨some ⟨g, 0, none⟩, cap', ds⟩]) = Crc.crc 0#32 ds from rfl]
        have B2 := hbr.trans ((hb1.mono hbr.size).trans (q2.below _))
        have hs2 := hs.below B2
        have hT2 := hT.below B2
        have hb2 : Below w2.heap.size w2 (w2.alloc (.cells #[.slice (some ⟨b0, o0, none⟩) n cap] 26)) := (Below.refl _ _).alloc (Nat.le_refl _) _
        clear hb1 q2 hd1 hs1 hT1 hbr hlw
        go_wp2_with fail
        refine (toQ (of_calls _ 1 1 [⟨some ⟨b0, o0, none⟩, cap, bs⟩] _ rfl (by decide) (hT2.below hb2) (Sl.new rfl (by subst hl; rfl)) (by
          intro p hp
          obtain rfl := List.mem_singleton.1 hp
          exact ⟨by simp only; omega, hs2.alloc _⟩))).mono ?_
        rintro e w3 ⟨rfl, q3⟩
        rw [show Crc.crcs 0#32 (List.map Part.bs [⟨some ⟨b0, o0, none⟩, cap, bs⟩]) = Crc.crc 0#32 bs from rfl]
        have B3 := B2.trans ((hb2.mono B2.size).trans (q3.below _))
        have hT3 := hT.below B3
        clear hb2 q3 hs2 hT2 B2
        have h9 := nz_of HC.out
        generalize Crc.crc 0#32 ds = r1 at h9
        generalize Crc.crc 0#32 bs = r2 at h9
        go_wp2_with fail
        refine (sumRuns_calls w3 hT3).mono ?_
        rintro e w4 ⟨rfl, hb4⟩
        go_wp2_with fail
        go_ret
        exact ⟨rfl, B3.trans (hb4.mono B3.size)⟩

set_option maxHeartbeats 800000 in
theorem sumBursts_none (A : Option Addr) (cap : Nat) (at_ burst : Value) (w : World) (hT : Tabs w) :
    Calls Tryd.prog 7 #[.slice A 0 cap, at_, burst] w fun e w' => e = .returned (.bool true) ∧ Below w.heap.size w w' := by
  have hb1 : Below w.heap.size w (w.alloc (.cells #[.slice A 0 cap] 26)) := (Below.refl _ _).alloc (Nat.le_refl _) _
  go_enter Tryd.func7, Tryd.ntmps7
  go_wp2_with fail
  refine (toQ (of_calls _ 1 1 [⟨A, cap, []⟩] _ rfl (by decide) (hT.below hb1) (Sl.new rfl rfl) (by
    intro p hp
    obtain rfl := List.mem_singleton.1 hp
    exact ⟨by simp, Sl.nil⟩))).mono ?_
  rintro e w2 ⟨rfl, q2⟩
  rw [show Crc.crcs 0#32 (List.map Part.bs [⟨A, cap, []⟩]) = 0#32 from Crc.crc_nil _]
  have B2 := hb1.trans (q2.below _)
  go_wp2_with fail
  refine (sumRuns_calls w2 (hT.below B2)).mono ?_
  rintro e w4 ⟨rfl, hb4⟩
  go_wp2_with fail
  go_ret
  exact ⟨rfl, B2.trans (hb4.mono B2.size)⟩

theorem sumBursts_calls (A : Option Addr) (n cap : Nat) (bs : List UInt8) (at_ : Int) (burst : BitVec 32) (w : World) (hT : Tabs w) (hl : bs.length = n) (hn : n ≤ 140737488351232) (hs : Sl w A (bs.map B8)) (hat : -9223372036854775808 ≤ at_ ∧ at_ ≤ 9223372036854775807) :
    Calls Tryd.prog 7 #[.slice A n cap, .int .i64 at_, .int .u32 (burst.toNat : Int)] w fun e w' => e = .returned (.bool true) ∧ Below w.heap.size w w' := by
  by_cases h0 : 0 < n
  · exact sumBursts_some A n cap bs at_ burst w hT hl hn h0 hs hat
  · obtain rfl : n = 0 := by omega
    exact sumBursts_none A cap _ _ w hT
end Go.Proofs.YtjmiejcgahajfaaDoor
