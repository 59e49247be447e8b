/-
  WireReads, its walk.
-/
import Derived.Test.YtepmnhlfjidhjaaWireAsk
import Derived.Test.YtepmnhlfjidhjaaWireRuns
import Derived.Test.YtepmnhlfjidhjaaIntactB
import Derived.Test.YtepmnhlfjidhjaaFr
namespace Go.Proofs.Ytepmnhlfjidhjaa
open Go.RowKit Go.Mem

/-- what stands from B on is as it was -/
def Above (B : Nat) (w W : World) : Prop := ∀ g, B ≤ g → g < w.heap.size → W.heap[g]? = w.heap[g]?
def ReadEnd (bs : List UInt8) (w : World) (e : Ending) (w' : World) : Prop := ∃ p, e = .returned (.pointer (some ⟨p, 0, none⟩)) ∧ w.heap.size ≤ p ∧ Hid (∀ W, Above w.heap.size w' W → Rd W p bs 0 0) ∧ Below w.heap.size w w'
def RefEnd (bs : List UInt8) (w : World) (e : Ending) (w' : World) : Prop := ∃ p, e = .returned (.pointer (some ⟨p, 0, none⟩)) ∧ w.heap.size ≤ p ∧ Hid (∀ W, Above w.heap.size w' W → Re W p bs 0 0) ∧ Below w.heap.size w w'
theorem own_above {w W : World} {B n c : Nat} {e : TypeId} {D : Option Addr} {xs : List Value} (h : OwnB w B e 1 D n c xs) (ha : Above B w W) : OwnB W B e 1 D n c xs := h.keep fun g hg hl => ha g hg hl
theorem read2_calls (A : Option Addr) (n cap : Nat) (bs : List UInt8) (w : World) (hl : bs.length = n) (hs : Sl w A (bs.map B8)) (hn : n ≤ 70368744177664) :
    Calls Try.prog 27 #[.slice A n cap] w (ReadEnd bs w) := by
  obtain ⟨i0, hi, hz0, hz1, hz2⟩ := info_parts infoU8
  have hlm : (bs.map B8).length = n := by rw [List.length_map]; exact hl
  have hb0 := Below.refl w.heap.size w
  unfold ReadEnd
  go_enter Try.func27, Try.ntmps27
  go_wp2_with (at_builtin; refine wpList_append_ownB (o := ⟨some 4, _, _, _, _, _⟩) rfl (.const (.slice none 0 0)) (.tmp 3) 24 24 rfl 5 i0 (.int .u8 0) 1 1 Try.underlying24 hi hz0 hz1 hz2 rfl w.heap.size none 0 0 [] rfl (OwnB.nil _ _ _ _) (.slice A n cap) rfl n (bs.map B8) (srcSl Try.underlying24 hlm hs (bytes_one _)) (by omega) (by omega) w hb0 (Nat.le_refl _) ?_)
  intro w1 D1 c1 HO hb1 hsz1
  go_wp2_with fail
  go_ret
  have hl1 := OwnB.bytes HO.out
  refine ⟨w1.heap.size, rfl, hsz1, (show ∀ _, _ from fun W hW => ⟨⟨D1, c1, ?_, ?_, by rw [hl1]; exact HO.out.le⟩, Nat.zero_le _, by omega, by omega⟩), hb1.alloc hsz1 _⟩
  · rw [hl1]; exact (hW _ hsz1 (by simp)).trans (Blk.new _ _ _)
  · exact (own_above (HO.out.alloc _) hW).sl
theorem ref2_calls (A : Option Addr) (n cap : Nat) (bs : List UInt8) (w : World) (hl : bs.length = n) (hs : Sl w A (bs.map B8)) (hn : n ≤ 70368744177664) :
    Calls Try.prog 28 #[.slice A n cap] w (RefEnd bs w) := by
  obtain ⟨i0, hi, hz0, hz1, hz2⟩ := info_parts infoU8
  have hlm : (bs.map B8).length = n := by rw [List.length_map]; exact hl
  have hb0 := (Below.refl w.heap.size w).alloc (Nat.le_refl _) (.cells #[] 5)
  unfold RefEnd
  go_enter Try.func28, Try.ntmps28
  go_wp2_with (at_builtin; refine wpList_append_ownB (o := ⟨some 5, _, _, _, _, _⟩) rfl (.tmp 3) (.tmp 4) 24 24 rfl 5 i0 (.int .u8 0) 1 1 Try.underlying24 hi hz0 hz1 hz2 rfl w.heap.size (some ⟨w.heap.size, 0, none⟩) 0 0 [] rfl (OwnB.empty rfl (Nat.le_refl _)) (.slice A n cap) rfl n (bs.map B8) (srcSl Try.underlying24 hlm (hs.alloc _) (bytes_one _)) (by omega) (by omega) w hb0 (by simp) ?_)
  intro w1 D1 c1 HO hb1 hsz1
  have hsz2 : w.heap.size ≤ w1.heap.size := hb1.size
  go_wp2_with fail
  go_ret
  have hl1 := OwnB.bytes HO.out
  refine ⟨w1.heap.size, rfl, hsz2, (show ∀ _, _ from fun W hW => ⟨⟨D1, c1, ?_, ?_, by rw [hl1]; exact HO.out.le⟩, Nat.zero_le _, by omega, by omega⟩), hb1.alloc hsz2 _⟩
  · rw [hl1]; exact (hW _ hsz2 (by simp)).trans (Blk.new _ _ _)
  · exact (own_above (HO.out.alloc _) hW).sl
theorem rowB_full (bs : List UInt8) (m : UInt8) : rowB bs m 80 = (bs ++ List.replicate 80 m).map B8 := by
  unfold rowB; simp
theorem Its.kept {w w' : World} {M : Option Addr} {its : List Itm} (h : Its w M its) (hb : Below w.heap.size w w') : Its w' M its := h.below hb

set_option maxRecDepth 100000 in
set_option maxHeartbeats 6400000 in
theorem wireReads_calls (A M : Option Addr) (n cap mn mc : Nat) (bs : List UInt8) (its : List Itm) (w : World) (hl : bs.length = n) (hn : n ≤ 1048576) (_hnc : n ≤ cap) (hs : Sl w A (bs.map B8)) (hml : its.length = mn) (hits : Its w M its) (hok : ∀ i ∈ its, inI64 i.m) :
    Calls Try.prog 7 #[.slice A n cap, .slice M mn mc] w fun e w' => e = .returned (.bool true) ∧ Below w.heap.size w w' := by
  subst hml
  have HS := Lib.hid hs
  have HI := Lib.hid hits
  have HOK := Lib.hid hok
  have HL := Lib.hid hl
  have HRm := Lib.hid (roomyB_calls A n cap bs 92 w hl (by omega) hs)
  clear hs hits hok hl
  go_enter Try.func7, Try.ntmps7
  go_wp2_with fail
  refine HRm.out.mono ?_
  rintro e w1 ⟨rfl, hB1, hfull⟩
  have hfl := hfull.lt
  have hfs : Sl w1 (some ⟨w.heap.size, 0, none⟩) (bs.map B8) := by
    have h := hfull.sl.take bs.length
    rw [rowB_full, List.map_append, List.take_append_of_le_length (by simp), List.take_of_length_le (by simp)] at h
    exact h
  rw [rowB_full] at hfull
  have HF1 := Lib.hid hfull
  have HRd := Lib.hid (read2_calls (some ⟨w.heap.size, 0, none⟩) n (n + 80) bs w1 HL.out hfs (by omega))
  have HS1 := Lib.hid (HS.out.below hB1)
  have HB1 := Lib.hid hB1
  unfold ReadEnd at HRd
  have n0 : (0 : Int) ≤ (n : Int) := by omega
  have n1 : n ≤ n + 80 := by omega
  clear hfull hfs hB1 HRm HS
  go_wp2_with fail
  refine HRd.out.mono ?_
  rintro e w2 ⟨p, rfl, hp, HP, hB2⟩
  have HRf := Lib.hid (ref2_calls A n cap bs w2 HL.out (HS1.out.below hB2) (by omega))
  have HF2 := Lib.hid (HF1.out.below hB2 hfl)
  have HB2 := Lib.hid hB2
  unfold RefEnd at HRf
  clear hB2 HRd HF1
  go_wp2_with fail
  refine HRf.out.mono ?_
  rintro e w3 ⟨q, rfl, hq, HQ, hB3⟩
  have hs12 := HB2.out.size
  have hs23 := hB3.size
  have HF3 := Lib.hid (HF2.out.below hB3 (Nat.lt_of_lt_of_le hfl hs12))
  have hB13 : Below w1.heap.size w1 w3 := HB2.out.trans (hB3.mono hs12)
  have HS3 := Lib.hid (HS1.out.below hB13)
  have HB : Hid (Below w.heap.size w w3) := (show Below _ _ _ from HB1.out.trans (hB13.mono HB1.out.size))
  have HRW : Hid (∀ W, Above w1.heap.size w3 W → Below w.heap.size w W → RW w W p q bs 0 0 0 0) := (show ∀ _, _ from fun W ha hb => by
    have h1 := HB1.out.size
    refine ⟨HP.out W (fun g h2 h3 => ?_), HQ.out W (fun g h2 h3 => ha g (by omega) h3), hb, ⟨by omega, by omega⟩⟩
    rw [ha g h2 (by omega), hB3.block g h3])
  have h0RW := HRW.out w3 (fun _ _ _ => rfl) HB.out
  have HSm := Lib.hid (same_calls w w3 p q bs 0 0 h0RW)
  clear hB3 hB13 HRf HF2 HS1 HB2 HP HQ h0RW
  go_wp2_with fail
  refine HSm.out.mono ?_
  rintro e w4 ⟨rfl, m4, rfl⟩
  clear HSm
  have HIn := Lib.hid (intactB_calls (some ⟨w.heap.size, 0, none⟩) A n (n + 80) (n + 80) cap bs 92 (w3.drewN m4) HL.out rfl (by omega) (by rw [rowB_full]; exact (HF3.out.drewN m4).sl) (HS3.out.drewN m4) (Nat.le_refl _))
  go_wp2_with fail
  refine HIn.out.mono ?_
  rintro e w5 ⟨rfl, m5, rfl⟩
  clear HIn HS3
  have HFR : Hid (Fr [w.heap.size] w3 ((w3.drewN m4).drewN m5)) := (show Fr _ _ _ from ((Fr.refl _ _).drewN m4).drewN m5)
  have HY : Hid (∃ ys : List UInt8, ys.length = n + 80 ∧ Blk ((w3.drewN m4).drewN m5) w.heap.size 5 (ys.map B8)) := (show ∃ _, _ from ⟨bs ++ List.replicate 80 92, by rw [List.length_append, HL.out, List.length_replicate], HF3.out⟩)
  clear HF3
  generalize (w3.drewN m4).drewN m5 = w5 at *
  go_wp2_with fail
  go_loopw [8] (fun i wr => ∃ k : Nat, k ≤ n + 80 ∧ i = .int .i64 k ∧ Hid (∃ ys : List UInt8, ys.length = n + 80 ∧ Blk wr w.heap.size 5 (ys.map B8)) ∧ Hid (Fr [w.heap.size] w3 wr)) (fun i _ => n + 80 - (intOf i).toNat)
  case atStart => exact ⟨0, Nat.zero_le _, rfl, HY, HFR⟩
  case round =>
    clear HY HFR
    obtain ⟨k, hk, rfl, HY, HFR⟩ := hrel
    by_cases hlt : k < n + 80
    · obtain ⟨ys, hyl, hyb⟩ := HY.out
      have ck := hyb.cell k
      have fk := hyb.frozen k
      obtain ⟨u, hu⟩ : ∃ u, ys[k]? = some u := ⟨_, List.getElem?_eq_getElem (by omega)⟩
      rw [List.getElem?_map, hu, Option.map_some] at ck
      unfold B8 at ck
      have hy255 : u.toNat ≤ 255 := by have := u.toNat_lt; omega
      have HN : Hid (∃ zs : List UInt8, zs.length = n + 80 ∧ Blk (wr.setCell ⟨w.heap.size, k, none⟩ (.int .u8 (255 - (u.toNat : Int)))) w.heap.size 5 (zs.map B8)) := (show ∃ _, _ from by
        refine ⟨ys.set k (255 - u), by rw [List.length_set]; exact hyl, ?_⟩
        have h := hyb.set_ k (B8 (255 - u))
        rw [List.map_set]
        have e : B8 (255 - u) = .int .u8 (255 - (u.toNat : Int)) := by
          unfold B8
          rw [UInt8.toNat_sub_of_le _ _ (by rw [UInt8.le_iff_toNat_le]; exact hy255)]
          show Value.int .u8 (((255 : Nat) - _ : Nat) : Int) = _
          rw [Int.ofNat_sub hy255]; rfl
        rw [e] at h ⊢
        exact h)
      have HF9 := Lib.hid (HFR.out.set (p := w.heap.size) (o := k) (by simp) (.int .u8 (255 - (u.toNat : Int))))
      generalize u.toNat = y at *
      have k0 : (0 : Int) ≤ (k : Int) := by omega
      have k1 : (k : Int) < ((n + 80 : Nat) : Int) := by omega
      clear hyb HY HFR hyl hu
      go_wp2_with fail
      go_roundw
      case rel => exact ⟨k + 1, by omega, by go_num, HN, HF9⟩
      case measure => simp [intOf]; omega
    · have HB5 : Hid (Below w.heap.size w wr) := (show Below _ _ _ from below_fr HB.out HFR.out HB.out.size (fun x hx => by rw [List.mem_singleton.1 hx]; exact Nat.le_refl _))
      have HR5 : Hid (RW w wr p q bs 0 0 0 0) := (show RW _ _ _ _ _ _ _ _ _ from HRW.out wr (fun g h1 h2 => HFR.out.block g h2 (by simp; omega)) HB5.out)
      clear HY HFR HRW HB HB5 HB1
      obtain ⟨wo, rfl⟩ : ∃ wo : World, wo = wr := ⟨_, rfl⟩
      go_wp2_with fail
      go_loopw [9] (fun i wr => ∃ (j a er : Nat), j ≤ its.length ∧ i = .int .i64 j ∧ Hid (RW w wr p q bs a er a er)) (fun i _ => its.length - (intOf i).toNat)
      case atStart => exact ⟨0, 0, 0, Nat.zero_le _, rfl, HR5⟩
      case round =>
        clear HR5
        obtain ⟨j, a, er, hj, rfl, HR⟩ := hrel
        by_cases hin : j < its.length ∧ j < 200
        · obtain ⟨hlt, h200⟩ := hin
          have hd3 : decide ((j : Int) < 200) = true := decide_eq_true (by omega)
          have j0 : (0 : Int) ≤ (j : Int) := by omega
          have j1 : (j : Int) < (its.length : Int) := by omega
          obtain ⟨b, o, rfl, hc⟩ := (HI.out.below HR.out.bel) j _ (List.getElem?_eq_getElem hlt)
          have hmi := HOK.out _ (List.getElem_mem hlt)
          generalize its[j] = it1 at *
          have c0 := hc 0 _ rfl
          have c1 := hc 1 _ rfl
          have c2 := hc 2 _ rfl
          have c3 := hc 3 _ rfl
          have c4 := hc 4 _ rfl
          have c5 := hc 5 _ rfl
          rw [Nat.add_zero] at c0
          have HA := Lib.hid (ask_calls w wr p q bs a er it1 HR.out hmi (by have := HL.out; omega))
          unfold AskEnd at HA
          clear hc hmi HR
          go_wp2_with fail
          refine HA.out.mono ?_
          rintro e w6 ⟨rfl, a2, e2, hr⟩
          have HR6 := Lib.hid hr
          have HSm := Lib.hid (same_calls w w6 p q bs a2 e2 hr)
          clear hr HA c0 c1 c2 c3 c4 c5
          go_wp2_with fail
          refine HSm.out.mono ?_
          rintro e w7 ⟨rfl, m7, rfl⟩
          have HR7 := Lib.hid (HR6.out.drewN m7)
          clear HSm HR6
          go_wp2_with fail
          go_roundw
          case rel => exact ⟨j + 1, a2, e2, by omega, by go_num, HR7⟩
          case measure => simp [intOf]; omega
        · by_cases hlt : j < its.length
          all_goals
            first
              | (have hd4 : decide ((j : Int) < 200) = false := decide_eq_false (by omega))
              | skip
            have HE1 := Lib.hid (end_calls p bs a er wr HR.out.r)
            unfold After at HE1
            clear hin HI HOK
            go_wp2_with fail
            refine HE1.out.mono ?_
            rintro e w6 ⟨rfl, r6, t6⟩
            have H6 := Lib.hid (HR.out.turnR r6 t6)
            have HE2 := Lib.hid (reend_calls q bs a er w6 H6.out.e)
            unfold AfterE at HE2
            clear r6 t6 HE1 HR
            go_wp2_with fail
            refine HE2.out.mono ?_
            rintro e w7 ⟨rfl, r7, t7⟩
            have H7 := Lib.hid (H6.out.turnE r7 t7)
            have HSm := Lib.hid (same_calls w w7 p q bs a _ H7.out)
            clear r7 t7 HE2 H6
            go_wp2_with fail
            refine HSm.out.mono ?_
            rintro e w8 ⟨rfl, m8, rfl⟩
            have B8' := Lib.hid (H7.out.drewN m8).bel
            clear HSm H7
            go_wp2_with fail
            refine (wireRuns_calls _).mono ?_
            rintro e w9 ⟨rfl, b9⟩
            have B9 := B8'.out.trans (b9.mono B8'.out.size)
            go_wp2_with fail
            go_ret
            exact ⟨rfl, B9⟩
end Go.Proofs.Ytepmnhlfjidhjaa
