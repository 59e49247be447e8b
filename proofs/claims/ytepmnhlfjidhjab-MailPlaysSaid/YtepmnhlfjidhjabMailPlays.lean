/-
  MailPlays, its walk.
-/
import Derived.Test.YtepmnhlfjidhjabMailP
import Derived.Test.YtepmnhlfjidhjabWithin
import Derived.Test.YtepmnhlfjidhjabStructs
import Derived.Deep.RegionHeld3
import Derived.Deep.QuietTactic
import Derived.BigQuiet
import Derived.Deep.RegionLaw
import Derived.Deep.DeepCutAuto
import Derived.Deep.CutBlock
namespace Go.Proofs.Ytepmnhlfjidhjab
open Go.ChangeShapes Go.WideShapes Go.RowKit Go.Mem Go.Law

structure Ask6 where
  kind : Int
  box : Int
  num : Int
def R64m (n : Int) : Prop := -9223372036854775808 ≤ n ∧ n ≤ 9223372036854775807
def Ask6.cells (a : Ask6) : List Value := [.int .i64 a.kind, .int .i64 a.box, .int .i64 a.num]
def Ask6.ok (a : Ask6) : Prop := R64m a.kind ∧ R64m a.box ∧ R64m a.num
set_option maxRecDepth 100000 in
theorem open_asks6 {H : Type} {enc : TypeId × Value → H} {W : World} {v : Value} {d : DataW H} {ps : List MemPlace} {b0 : Nat} (hv : Value.okWide Try.prog W .any b0 23 v) (h : DataW.Trod enc Try.prog W 0 (fun _ => true) true 23 v d ps) :
    ∃ (A : Option Addr) (n c : Nat) (rs : List Ask6), v = .slice A n c ∧ rs.length = n ∧ n ≤ c ∧ c ≤ maxLen ∧ RowsAt W A 3 (rs.map Ask6.cells) ∧ ∀ r ∈ rs, r.ok :=
  open_structs Ask6.cells Ask6.ok Try.underlying23 (by kernel_rfl) (by decide) (fun _ => rfl) (fun fuel cs x hf => by
    obtain ⟨a, b, c, rfl, w0, w1, w2⟩ := ints3_of_trod Try.underlying35 rfl rfl rfl Try.underlying3 Try.underlying3 Try.underlying3 (by kernel_rfl) (by kernel_rfl) (by kernel_rfl) (by kernel_rfl) hf
    exact ⟨⟨a, b, c⟩, rfl, i64_of_wf w0, i64_of_wf w1, i64_of_wf w2⟩) hv h
theorem infoIM : (Try.prog.info? 3).map (fun i => (i.zero, i.size, i.bytes)) = some (some (.int .i64 0), 1, 8) := by kernel_rfl
theorem I64_one (l : List Int) : ∀ u ∈ l.map I64, u.oneCell' = true := by
  intro u hu; obtain ⟨_, _, rfl⟩ := List.mem_map.1 hu; rfl
theorem quietEqM {P : Program} {f : FuncId} {args : Array Value} {w : World} {n : Nat} {v : Value} (h : Calls P f args (w.drewN n) fun e w' => e = .returned v ∧ w.drewN n = w') : Calls P f args (w.drewN n) fun e w'' => e = .returned v ∧ ∃ m, w'' = w.drewN m :=
  h.mono fun _ _ ⟨he, hw⟩ => ⟨he, n, hw.symm⟩
def GoodM (es : List Bo) : Prop := ∀ e ∈ es, e.buf = e.l ∧ e.bc = e.cl ∧ e.l.length ≤ e.cap ∧ e.cap ≤ 6

set_option maxRecDepth 100000 in
set_option maxHeartbeats 12800000 in
theorem mailPlays_calls (r0 r1 r2 : Int) (A : Option Addr) (n cap : Nat) (rs : List Ask6) (w : World) (h0 : R64m r0) (h1 : R64m r1) (h2 : R64m r2) (hl : rs.length = n) (hn : n ≤ 9223372036854775807) (hs : RowsAt w A 3 (rs.map Ask6.cells)) (hok : ∀ r ∈ rs, r.ok) :
    Calls Try.prog 3 #[.agg #[.int .i64 r0, .int .i64 r1, .int .i64 r2], .slice A n cap] w fun e w' => e = .returned (.bool true) ∧ Below w.heap.size w w' := by
  subst hl
  have HS := Lib.hid hs
  have HOK := Lib.hid hok
  have HRR : Hid (∀ k : Nat, k < 3 → ∃ r : Int, ([r0, r1, r2] : List Int)[k]? = some r ∧ R64m r) := (show ∀ _, _ from fun k hk => by
    have : k = 0 ∨ k = 1 ∨ k = 2 := by omega
    rcases this with rfl | rfl | rfl
    · exact ⟨r0, rfl, h0⟩
    · exact ⟨r1, rfl, h1⟩
    · exact ⟨r2, rfl, h2⟩)
  have hb1 := (Below.refl w.heap.size w).alloc (Nat.le_refl _) (.cells #[.int .i64 r0, .int .i64 r1, .int .i64 r2] 22)
  have k1 := Blk.new w 22 #[.int .i64 r0, .int .i64 r1, .int .i64 r2]
  clear hs hok h0 h1 h2
  generalize hw1 : w.alloc (.cells #[.int .i64 r0, .int .i64 r1, .int .i64 r2] 22) = w1 at k1 hb1
  have z1 : w1.heap.size = w.heap.size + 1 := by rw [← hw1]; simp
  have hb2 := hb1.alloc hb1.size (.cells #[.pointer none, .pointer none, .pointer none] 25)
  have k2 := Blk.new w1 25 #[.pointer none, .pointer none, .pointer none]
  have k1' := k1.alloc (.cells #[.pointer none, .pointer none, .pointer none] 25)
  generalize hw2 : w1.alloc (.cells #[.pointer none, .pointer none, .pointer none] 25) = w2 at k1' k2 hb2
  have z2 : w2.heap.size = w.heap.size + 1 + 1 := by rw [← hw2]; simp; omega
  have hb3 := hb2.alloc hb2.size (.cells #[.slice none 0 0, .int .i64 0, .bool false, .slice none 0 0, .int .i64 0, .bool false, .slice none 0 0, .int .i64 0, .bool false] 29)
  have k3 := Blk.new w2 29 #[.slice none 0 0, .int .i64 0, .bool false, .slice none 0 0, .int .i64 0, .bool false, .slice none 0 0, .int .i64 0, .bool false]
  have k1'' := k1'.alloc (.cells #[.slice none 0 0, .int .i64 0, .bool false, .slice none 0 0, .int .i64 0, .bool false, .slice none 0 0, .int .i64 0, .bool false] 29)
  have k2' := k2.alloc (.cells #[.slice none 0 0, .int .i64 0, .bool false, .slice none 0 0, .int .i64 0, .bool false, .slice none 0 0, .int .i64 0, .bool false] 29)
  rw [z1] at k2'
  rw [z2] at k3
  have HB0 : Hid (Bos w (w2.alloc (.cells #[.slice none 0 0, .int .i64 0, .bool false, .slice none 0 0, .int .i64 0, .bool false, .slice none 0 0, .int .i64 0, .bool false] 29)) (w.heap.size + 1) (w.heap.size + 1 + 1) []) := (show Bos _ _ _ _ _ from ⟨k2', k3, by simp, (fun i e h => by simp at h), (fun i j e f _ h => by simp at h), ⟨by omega, by omega⟩, hb3⟩)
  have HG0 : Hid (GoodM []) := (show GoodM _ from fun e h => by cases h)
  have HK := Lib.hid k1''
  rw [← hw2, ← hw1] at HB0 HK
  clear hw1 hw2 z1 z2 hb1 hb2 hb3 k1 k2 k3 k1' k1'' k2'
  go_enter Try.func3, Try.ntmps3
  go_upto_block 0 with fail
  go_cut [7] from 23 to 50 (fun _ wx => ∃ es, Hid (Bos w wx (w.heap.size + 1) (w.heap.size + 1 + 1) es) ∧ Hid (GoodM es) ∧ es.length = 3)
  case first => as_aux_lemma =>
    clear HS HOK
    generalize ((w.alloc (.cells #[.int .i64 r0, .int .i64 r1, .int .i64 r2] 22)).alloc (.cells #[.pointer none, .pointer none, .pointer none] 25)).alloc (.cells #[.slice none 0 0, .int .i64 0, .bool false, .slice none 0 0, .int .i64 0, .bool false, .slice none 0 0, .int .i64 0, .bool false] 29) = w3 at *
    go_wp2_with fail
    go_loopw [7] (fun i wr => ∃ (k : Nat) (es : List Bo), k ≤ 3 ∧ i = .int .i64 k ∧ es.length = k ∧ Hid (Bos w wr (w.heap.size + 1) (w.heap.size + 1 + 1) es) ∧ Hid (GoodM es) ∧ Hid (Blk wr w.heap.size 22 [.int .i64 r0, .int .i64 r1, .int .i64 r2])) (fun i _ => 3 - (intOf i).toNat)
    case atStart => exact ⟨0, [], by omega, rfl, rfl, HB0, HG0, HK⟩
    case round =>
      clear HB0 HG0 HK
      obtain ⟨k, es, hk, rfl, hel, HB, HG, HK⟩ := hrel
      by_cases hlt : k < 3
      · obtain ⟨r, hr, hrr⟩ := HRR.out k hlt
        have hrm1 := within_ge r 1 6 (by decide)
        have hrm2 := within_le r 1 6 (by decide)
        have HW := Lib.hid (fun W => within_calls r 1 6 W (by decide) (by decide) (by decide) hrr)
        generalize within r 1 6 = rm at hrm1 hrm2 HW
        obtain ⟨rm, rfl⟩ := Int.eq_ofNat_of_zero_le (show 0 ≤ rm by omega)
        have ck := HK.out.cell k
        rw [show ([.int .i64 r0, .int .i64 r1, .int .i64 r2] : List Value) = ([r0, r1, r2] : List Int).map I64 from rfl, List.getElem?_map, hr, Option.map_some] at ck
        unfold I64 at ck
        have hn3 : k = 0 ∨ k = 1 ∨ k = 2 := by omega
        have hfl := flat_len (F := Bo.cells) (m := 3) (fun _ => rfl) es
        have cw : wr.cell? ⟨w.heap.size + 1 + 1, k * 3 + 1, none⟩ = some (.int .i64 0) := by
          rw [HB.out.w.cell, List.getElem?_append_right (by rw [hfl]; omega), hfl, hel, Nat.add_sub_cancel_left]
          rcases hn3 with rfl | rfl | rfl <;> rfl
        have fw := HB.out.w.frozen (k * 3 + 1)
        have k0 : (0 : Int) ≤ (k : Int) := by omega
        have k3 : (k : Int) < 3 := by omega
        go_wp2_with fail
        refine (HW.out _).mono ?_
        rintro e w4 ⟨rfl, rfl⟩
        go_wp2_with fail
        refine (newI_ok rm (by omega) (by omega) _).mono ?_
        unfold NewI
        rintro e w5 ⟨p, c, rfl, hbx, hp, hc, hB5⟩
        have hz : (wr.setCell ⟨w.heap.size + 1 + 1, k * 3 + 1, none⟩ (.int .i64 (rm : Int))).heap.size = wr.heap.size := by simp
        rw [hz] at hp hc hB5
        have hlt2 : es.length < 3 := by omega
        subst hel
        have HGr := Lib.hid (HB.out.grow hlt2 hB5 hbx hp hc)
        have hbk := (HB.out.b.far (p := ⟨w.heap.size + 1 + 1, es.length * 3 + 1, none⟩) (HB.out.b.ne_ HB.out.w (by decide)) (.int .i64 (rm : Int))).below hB5 HB.out.b.lt
        have cb := hbk.cell es.length
        rw [List.getElem?_append_right (by simp), List.length_map, Nat.sub_self, List.getElem?_replicate, if_pos (by omega)] at cb
        have fb := hbk.frozen es.length
        have HK2 := Lib.hid (((HK.out.far (p := ⟨w.heap.size + 1 + 1, es.length * 3 + 1, none⟩) (by show w.heap.size ≠ w.heap.size + 1 + 1; omega) (.int .i64 (rm : Int))).below hB5 HK.out.lt).far (p := ⟨w.heap.size + 1, es.length, none⟩) (by show w.heap.size ≠ w.heap.size + 1; omega) (.pointer (some ⟨p, 0, none⟩)))
        have HG2 : Hid (GoodM (es ++ [⟨p, c, rm, [], false, none, 0, [], false⟩])) := (show GoodM _ from fun e he => by
          rcases List.mem_append.1 he with h | h
          · exact HG.out e h
          · obtain rfl := List.mem_singleton.1 h; exact ⟨rfl, rfl, Nat.zero_le _, by show rm ≤ 6; omega⟩)
        clear HB HG HK hbx hB5 hbk hz cw fw ck HW hfl
        go_wp2_with fail
        go_roundw
        case rel => exact ⟨es.length + 1, _, by omega, by go_num, by simp, HGr, HG2, HK2⟩
        case measure => simp [intOf]; omega
      · obtain rfl : k = 3 := by omega
        go_wp2_with fail
        go_meet
        exact ⟨es, HB, HG, hel⟩
  case rest =>
    clear HB0 HG0 HK HRR
    obtain ⟨es, HB, HG, hel⟩ := hcut
    generalize w.heap.size + 1 + 1 = pw at *
    generalize w.heap.size + 1 = pb at *
    go_wp2_with fail
    go_loopw [10] (fun i wr => ∃ (j : Nat) (es : List Bo), j ≤ rs.length ∧ j ≤ 200 ∧ i = .int .i64 j ∧ es.length = 3 ∧ Hid (Bos w wr pb pw es) ∧ Hid (GoodM es)) (fun i _ => 200 - (intOf i).toNat)
    case atStart => exact ⟨0, es, Nat.zero_le _, Nat.zero_le _, rfl, hel, HB, HG⟩
    case round =>
      clear HB HG hel es
      obtain ⟨j, es, hj, hj2, rfl, hel, HB, HG⟩ := hrel
      by_cases hin : j < rs.length ∧ j < 200
      · obtain ⟨hlt, h200⟩ := hin
        have hd3 : decide ((j : Int) < 200) = true := decide_eq_true (by omega)
        have i0 : (0 : Int) ≤ (j : Int) := by omega
        have i1 : (j : Int) < (rs.length : Int) := by omega
        have HO := Lib.hid (HOK.out _ (List.getElem_mem hlt))
        obtain ⟨gz, oz, ez, x0, x1, x2⟩ := RowsAt.three (F := Ask6.cells) HS.out (List.getElem?_eq_getElem hlt) rfl
        subst ez
        replace x0 := keep_below HB.out.bel x0
        replace x1 := keep_below HB.out.bel x1
        replace x2 := keep_below HB.out.bel x2
        generalize rs[j] = r at *
        obtain ⟨rk, rb, rn⟩ := r
        simp only at x0 x1 x2
        have hkl := within_ge rb 0 2 (by decide)
        have hkh := within_le rb 0 2 (by decide)
        have HW := Lib.hid (fun W => within_calls rb 0 2 W (by decide) (by decide) (by decide) HO.out.2.1)
        generalize within rb 0 2 = kk at hkl hkh HW
        obtain ⟨kk, rfl⟩ := Int.eq_ofNat_of_zero_le hkl
        have hkk : kk < es.length := by omega
        have kq0 : (0 : Int) ≤ (kk : Int) := by omega
        have kq3 : (kk : Int) < 3 := by omega
        obtain ⟨e, he⟩ : ∃ e, es[kk]? = some e := ⟨_, List.getElem?_eq_getElem hkk⟩
        have HQ := Lib.hid (Blk.new wr 35 #[.int .i64 rk, .int .i64 rb, .int .i64 rn])
        have HB1 := Lib.hid (HB.out.below ((Below.refl _ _).alloc (Nat.le_refl _) (.cells #[.int .i64 rk, .int .i64 rb, .int .i64 rn] 35)))
        have HE := Lib.hid he
        have HGe := Lib.hid (HG.out e (List.mem_of_getElem? he))
        clear he HB hkk
        go_upto_region 15 with fail
        clear x0 x1 x2
        generalize wr.alloc (.cells #[.int .i64 rk, .int .i64 rb, .int .i64 rn] 35) = wz at *
        generalize wr.heap.size = q at *
        have y0 := HQ.out.cell 0
        have y1 := HQ.out.cell 1
        have y2 := HQ.out.cell 2
        simp only [List.getElem?_cons_zero, List.getElem?_cons_succ] at y0 y1 y2
        go_wp2_with fail
        refine (HW.out _).mono ?_
        rintro e9 w9 ⟨rfl, rfl⟩
        clear HW
        go_upto_block 4 with fail
        clear y0 y1
        go_cut [13] (fun _ wx => ∃ es', es'.length = 3 ∧ Hid (Bos w wx pb pw es') ∧ Hid (GoodM es'))
        case first =>
          obtain ⟨lp, l0, l1, l2⟩ := HB1.out.look HE.out
          obtain ⟨g1, g2, g3, g4⟩ := HGe.out
          by_cases k1 : rk = 1
          · as_aux_lemma =>
            subst k1
            have HSd := Lib.hid (fun W (h : Bos w W pb pw es) (hq : Blk W q 35 [.int .i64 1, .int .i64 rb, .int .i64 rn]) => send_ok w W pb pw es kk e rn q _ h HE.out hq)
            have HBS := Lib.hid (fun W (h : Bos w W pb pw (es.set kk { e with buf := if canM e then e.buf ++ [rn] else e.buf })) => (h.look (set_self HE.out _)).1)
            unfold SendEnd at HSd
            simp only at HBS
            cases hcl : e.cl with
            | true =>
              rw [hcl] at l2
              have hc : canM e = false := by unfold canM; rw [g2, hcl]; rfl
              clear hcl l0 l1
              rw [hc] at HSd HBS
              have HFin : Hid (GoodM (es.set kk { e with buf := if false = true then e.buf ++ [rn] else e.buf })) := (show GoodM _ from fun f hf => by
                have : ({ e with buf := if false = true then e.buf ++ [rn] else e.buf } : Bo) = e := by simp
                rw [this, set_same HE.out] at hf; exact HG.out f hf)
              clear hc g1 g2 g3 g4 HGe
              go_wp2_with fail
              go_quiet (fail)
              have HB2 := Lib.hid (HB1.out.drewN nq)
              have HQ2 : Hid (Blk (wz.drewN nq) q 35 [.int .i64 1, .int .i64 rb, .int .i64 rn]) := HQ
              clear HB1 HQ lp l2 y2
              generalize wz.drewN nq = W at *
              obtain ⟨lp, _⟩ := HB2.out.look HE.out
              have y2 := HQ2.out.cell 2
              simp only [List.getElem?_cons_zero, List.getElem?_cons_succ] at y2
              go_wp2_with fail
              go_region_held3 (fun w' => w'.cell? ⟨pb, kk, none⟩ = some (.pointer (some ⟨e.p, 0, none⟩)) ∧ w'.cell? ⟨q, 2, none⟩ = some (.int .i64 rn)) (first | (exact ⟨HBS.out _ hB5.out, hq5.out.cell 2⟩) | go_keep) (first | (go_at_call 14; refine (HSd.out _ (by first | exact HB2.out | exact HB2.out.drew) (by first | exact HQ2.out | exact HQ2.out.drew)).mono ?_; rintro e9 w5 ⟨rfl, hB5, hq5⟩; replace hB5 := Lib.hid hB5; replace hq5 := Lib.hid hq5))
              go_wp2_with fail
              go_meet
              exact ⟨_, by rw [List.length_set]; exact hel, hB5, HFin⟩
            | false =>
              have hbc : e.bc = false := by rw [g2, hcl]
              rw [hcl] at l2
              have hlen : e.buf.length = e.l.length := by rw [g1]
              by_cases hf : e.l.length < e.cap
              · have hd : decide ((e.l.length : Int) < (e.cap : Int)) = true := decide_eq_true (by omega)
                have hc : canM e = true := by unfold canM; rw [hbc, hlen, decide_eq_true hf]; rfl
                clear hcl hbc hlen
                rw [hc] at HSd HBS
                simp only [if_true] at HSd HBS
                have HG5 := Lib.hid HGe.out
                clear hc g1 g2 HGe
                go_wp2_with fail
                go_quiet (fail)
                have HB2 := Lib.hid (HB1.out.drewN nq)
                have HQ2 : Hid (Blk (wz.drewN nq) q 35 [.int .i64 1, .int .i64 rb, .int .i64 rn]) := HQ
                clear HB1 HQ lp l2 y2
                generalize wz.drewN nq = W at *
                obtain ⟨lp, _⟩ := HB2.out.look HE.out
                have y2 := HQ2.out.cell 2
                simp only [List.getElem?_cons_zero, List.getElem?_cons_succ] at y2
                go_wp2_with fail
                go_region_held3 (fun w' => w'.cell? ⟨pb, kk, none⟩ = some (.pointer (some ⟨e.p, 0, none⟩)) ∧ w'.cell? ⟨q, 2, none⟩ = some (.int .i64 rn)) (first | (exact ⟨HBS.out _ hB5.out, hq5.out.cell 2⟩) | go_keep) (first | (go_at_call 14; refine (HSd.out _ (by first | exact HB2.out | exact HB2.out.drew) (by first | exact HQ2.out | exact HQ2.out.drew)).mono ?_; rintro e9 w5 ⟨rfl, hB5, hq5⟩; replace hB5 := Lib.hid hB5; replace hq5 := Lib.hid hq5))
                clear HSd HB2 HQ2 lp y2
                have HE1 : Hid ((es.set kk { e with buf := e.buf ++ [rn] })[kk]? = some { e with buf := e.buf ++ [rn] }) := (show _ = _ from set_self HE.out _)
                obtain ⟨_, l0, _⟩ := hB5.out.look HE1.out
                have HO5 := Lib.hid (hB5.out.on kk _ HE1.out).2.1
                have y2 := hq5.out.cell 2
                have f0 := hB5.out.w.frozen (kk * 3)
                have hlt5 := hB5.out.w.lt
                simp only [List.getElem?_cons_zero, List.getElem?_cons_succ] at y2
                simp only at l0 HO5
                have hbel5 := hB5.out.bel
                have hbs5 := hbel5.size
                obtain ⟨i0, hi, hz0, hz1, hz2⟩ := info_parts infoIM
                have HPW : Hid (∀ w6 : World, (∀ g, g < ((w5.drewN 1).alloc (.cells #[.int .i64 rn] 3)).heap.size → (∀ o, e.L ≠ some ⟨g, o, none⟩) → w6.heap[g]? = ((w5.drewN 1).alloc (.cells #[.int .i64 rn] 3)).heap[g]?) → w6.cell? ⟨pw, kk * 3, none⟩ = some (.slice e.L e.l.length e.kc) ∧ w6.frozen? ⟨pw, kk * 3, none⟩ = false) := (show ∀ _, _ from fun w6 h6 => by
                  have hw := (hB5.out.w.drewN 1).alloc (.cells #[.int .i64 rn] 3)
                  have h7 : Blk w6 pw 29 _ := (h6 pw hw.lt (fun o ho => (((hB5.out.far HE1.out).2.2.2.2 pw o ho).1 rfl))).trans hw
                  exact ⟨by rw [h7.cell]; exact (hB5.out.w.cell (kk * 3)).symm.trans l0, h7.frozen _⟩)
                have HAPP := Lib.hid (fun (W W1 : World) D c (h : Bos w W pb pw (es.set kk { e with buf := e.buf ++ [rn] })) h1 h2 h3 h4 h5 => Bos.app (W1 := W1) (x := rn) (D := D) (c := c) h HE1.out h1 h2 h3 h4 h5)
                simp only at HAPP
                go_wp2_with fail
                go_region_law (first | (refine step_append_ownO (o := ⟨some 106, _, _, _, _, _⟩) (by rfl) (.tmp 102) (.tmp 105) 26 26 (by rfl) 3 i0 (.int .i64 0) 8 Try.underlying26 hi hz0 hz1 hz2 rfl w.heap.size e.L e.l.length e.kc (e.l.map I64) (by simp [Act.eval]) ((HO5.out.drewN 1).alloc _) (.slice (some ⟨w5.heap.size, 0, none⟩) 1 1) (by simp [Act.eval]) 1 ([rn].map I64) (srcSl Try.underlying26 rfl (Sl.new rfl rfl) (I64_one _)) (by omega) (by omega) w ((below_drewN hbel5 1).alloc hbs5 _) (by simp; try omega) ?_; intro w6 D6 c6 HO6 HD6 HF6 hb6 hsz6; obtain ⟨s0, s1⟩ := HPW.out w6 HF6.out))
                clear HPW f0 y2 l0
                all_goals
                  have HB9 := Lib.hid (HAPP.out _ w6 D6 c6 (((hB5.out.drewN 1).below ((Below.refl _ _).alloc (Nat.le_refl _) (.cells #[.int .i64 rn] 3)))) HO6.out (HD6.out.imp id (fun ⟨g, h1, h2⟩ => ⟨g, h1, Nat.le_of_eq h2.symm⟩)) HF6.out hb6 hsz6)
                  have HG9 : Hid (GoodM ((es.set kk { e with buf := e.buf ++ [rn] }).set kk { e with buf := e.buf ++ [rn], l := e.l ++ [rn], L := D6, kc := c6 })) := (show GoodM _ from by
                    rw [List.set_set]
                    exact good_set HG.out ⟨by show e.buf ++ [rn] = e.l ++ [rn]; rw [HG5.out.1], HG5.out.2.1, by show (e.l ++ [rn]).length ≤ e.cap; rw [List.length_append]; simp; omega, HG5.out.2.2.2⟩)
                  clear HAPP hB5 HO6 HD6 HF6 hb6 HO5 HE1 s0 s1
                  go_wp2_with fail
                  go_meet
                  exact ⟨_, by rw [List.length_set, List.length_set]; exact hel, HB9, HG9⟩
              · have hd : decide ((e.l.length : Int) < (e.cap : Int)) = false := decide_eq_false (by omega)
                have hdN : decide (e.l.length < e.cap) = false := decide_eq_false (by omega)
                have hc : canM e = false := by unfold canM; rw [hbc, hlen, decide_eq_false hf]; rfl
                clear hcl hbc hlen hf
                rw [hc] at HSd HBS
                have HFin : Hid (GoodM (es.set kk { e with buf := if false = true then e.buf ++ [rn] else e.buf })) := (show GoodM _ from fun f hf => by
                  have : ({ e with buf := if false = true then e.buf ++ [rn] else e.buf } : Bo) = e := by simp
                  rw [this, set_same HE.out] at hf; exact HG.out f hf)
                clear hc g1 g2 g3 g4 HGe
                go_wp2_with fail
                go_quiet (fail)
                have HB2 := Lib.hid (HB1.out.drewN nq)
                have HQ2 : Hid (Blk (wz.drewN nq) q 35 [.int .i64 1, .int .i64 rb, .int .i64 rn]) := HQ
                clear HB1 HQ lp l2 y2
                generalize wz.drewN nq = W at *
                obtain ⟨lp, _⟩ := HB2.out.look HE.out
                have y2 := HQ2.out.cell 2
                simp only [List.getElem?_cons_zero, List.getElem?_cons_succ] at y2
                go_wp2_with fail
                go_region_held3 (fun w' => w'.cell? ⟨pb, kk, none⟩ = some (.pointer (some ⟨e.p, 0, none⟩)) ∧ w'.cell? ⟨q, 2, none⟩ = some (.int .i64 rn)) (first | (exact ⟨HBS.out _ hB5.out, hq5.out.cell 2⟩) | go_keep) (first | (go_at_call 14; refine (HSd.out _ (by first | exact HB2.out | exact HB2.out.drew) (by first | exact HQ2.out | exact HQ2.out.drew)).mono ?_; rintro e9 w5 ⟨rfl, hB5, hq5⟩; replace hB5 := Lib.hid hB5; replace hq5 := Lib.hid hq5))
                go_wp2_with fail
                go_meet
                exact ⟨_, by rw [List.length_set]; exact hel, hB5, HFin⟩
          have n1 : (rk == 1) = false := beq_eq_false_iff_ne.2 k1
          by_cases k2 : rk = 2
          · as_aux_lemma =>
            subst k2
            have HRv := Lib.hid (recv_ok w wz pb pw es kk e HB1.out HE.out)
            unfold RecvEnd at HRv
            have hlv : e.l = [] ∨ ∃ x l, e.l = x :: l := by
              cases e.l with
              | nil => exact .inl rfl
              | cons x l => exact .inr ⟨x, l, rfl⟩
            rcases hlv with hl | ⟨x, l, hl⟩
            · skip
              have hbv := g1
              rw [hl] at hbv
              rw [hbv] at HRv
              clear hbv
              simp only [List.headD_nil, List.isEmpty_nil, Bool.not_true, List.tail_nil] at HRv
              have HFin : Hid (GoodM (es.set kk { e with buf := [] })) := (show GoodM _ from good_set HG.out ⟨hl.symm, g2, g3, g4⟩)
              have HL0 : Hid (∀ W, Bos w W pb pw (es.set kk { e with buf := [] }) → W.cell? ⟨pw, kk * 3, none⟩ = some (.slice e.L 0 e.kc)) := (show ∀ _, _ from fun W h => by
                have := (h.look (set_self HE.out _)).2.1
                simp only [hl, List.length_nil] at this
                exact this)
              clear hl g1 g2 g3 g4 HGe l0 l1 l2 y2
              go_wp2_with fail
              refine HRv.out.mono ?_
              rintro e9 w5 ⟨rfl, hB5⟩
              have l0 := HL0.out _ hB5
              have HB5 := Lib.hid hB5
              clear HRv hB5 HL0 lp
              go_wp2_with fail
              go_meet
              exact ⟨_, by rw [List.length_set]; exact hel, HB5, HFin⟩
            · skip
              have hbv := g1
              rw [hl] at hbv
              rw [hbv] at HRv
              clear hbv
              simp only [List.headD_cons, List.isEmpty_cons, Bool.not_false, List.tail_cons] at HRv
              have hel1 : (es.set kk { e with buf := l }).length = 3 := by rw [List.length_set]; exact hel
              have HE1 := Lib.hid (set_self HE.out { e with buf := l })
              have HFst := Lib.hid (fun W (h : Bos w W pb pw (es.set kk { e with buf := l })) => h.first (x := x) (l := l) (set_self HE.out _) hl)
              have HCT := Lib.hid (fun W b o (h : Bos w W pb pw (es.set kk { e with buf := l })) (hL : e.L = some ⟨b, o, none⟩) => h.cut1 (x := x) (l := l) (set_self HE.out _) hl hL)
              have HLk := Lib.hid (fun W (h : Bos w W pb pw (es.set kk { e with buf := l })) => h.look (set_self HE.out _))
              have HGd := Lib.hid (fun e' (h : e'.buf = e'.l ∧ e'.bc = e'.cl ∧ e'.l.length ≤ e'.cap ∧ e'.cap ≤ 6) => good_set (k := kk) (e := e') HG.out h)
              have HC : Hid (l.length ≤ e.cap ∧ e.bc = e.cl ∧ e.cap ≤ 6) := (show _ ∧ _ from ⟨by rw [hl] at g3; simp at g3; omega, g2, g4⟩)
              have hl1 : e.l.length = l.length + 1 := by rw [hl]; rfl
              have hkc := (HB1.out.on kk e HE.out).2.1.2.1
              rw [hl1] at hkc
              simp only at HFst HLk HCT
              rw [hl1] at HLk
              clear hl hl1 g1 g2 g3 g4 HGe l0 l1 l2 y2
              go_wp2_with fail
              refine HRv.out.mono ?_
              rintro e9 w5 ⟨rfl, hB5⟩
              obtain ⟨b, o, hL, cx⟩ := HFst.out _ hB5
              obtain ⟨lp, l0, _⟩ := HLk.out _ hB5
              rw [hL] at l0
              have f0 := hB5.w.frozen (kk * 3)
              obtain ⟨HC1, HC2⟩ := HCT.out w5 b o hB5 hL
              have z0 : (0 : Int) < ((l.length + 1 : Nat) : Int) := by omega
              have z1 : (1 : Int) ≤ ((l.length + 1 : Nat) : Int) := by omega
              have ex : (x != x) = false := by simp
              clear HRv hB5 HFst HCT HLk hL
              by_cases hk1 : e.kc = 1
              · obtain ⟨h9, HC3⟩ := HC1 hk1
                subst h9
                have HB6 := Lib.hid HC3
                have HG6 := Lib.hid (HGd.out { e with buf := [], l := [], L := some ⟨b, o, none⟩, kc := 0 } ⟨rfl, HC.out.2.1, Nat.zero_le _, HC.out.2.2⟩)
                rw [hk1] at l0
                clear HC1 HC2 HC3 HGd hk1
                go_wp2_with fail
                go_meet
                exact ⟨_, by rw [List.length_set]; exact hel1, HB6, (show Hid (GoodM _) from by rw [List.set_set]; exact HG6)⟩
              · have HB6 := Lib.hid (HC2 hk1)
                have HG6 := Lib.hid (HGd.out { e with buf := l, l := l, L := some ⟨b, o + 1, none⟩, kc := e.kc - 1 } ⟨rfl, HC.out.2.1, HC.out.1, HC.out.2.2⟩)
                have hkc2 : (1 : Int) < (e.kc : Int) := by omega
                clear HC1 HC2 HGd hk1
                go_wp2_with fail
                go_meet
                exact ⟨_, by rw [List.length_set]; exact hel1, HB6, (show Hid (GoodM _) from by rw [List.set_set]; exact HG6)⟩
          have n2 : (rk == 2) = false := beq_eq_false_iff_ne.2 k2
          by_cases k3 : rk = 3
          · as_aux_lemma =>
            subst k3
            have HCl := Lib.hid (close_ok w wz pb pw es kk e HB1.out HE.out)
            unfold CloseEnd at HCl
            have HMk := Lib.hid (fun W (h : Bos w W pb pw (es.set kk { e with bc := true })) => h.mark (set_self HE.out _))
            have HLk := Lib.hid (fun W (h : Bos w W pb pw (es.set kk { e with bc := true })) => (h.look (set_self HE.out _)).2.2.2)
            have HFin : Hid (GoodM ((es.set kk { e with bc := true }).set kk { e with bc := true, cl := true })) := (show GoodM _ from by rw [List.set_set]; exact good_set HG.out ⟨g1, rfl, g3, g4⟩)
            have hel1 : ((es.set kk { e with bc := true }).set kk { e with bc := true, cl := true }).length = 3 := by rw [List.length_set, List.length_set]; exact hel
            clear g1 g2 g3 g4 HGe l0 l1 l2 y2
            go_wp2_with fail
            refine HCl.out.mono ?_
            rintro e9 w5 ⟨rfl, hB5⟩
            have l2 := HLk.out _ hB5
            have f2 := hB5.w.frozen (kk * 3 + 2)
            have HB6 := Lib.hid (HMk.out _ hB5)
            clear HCl hB5 HLk HMk lp
            go_wp2_with fail
            go_meet
            exact ⟨_, hel1, HB6, HFin⟩
          have n3 : (rk == 3) = false := beq_eq_false_iff_ne.2 k3
          by_cases k4 : rk = 4
          · as_aux_lemma =>
            subst k4
            clear l0 l1 l2 lp y2 g1 g2 g3 g4 HGe HE HQ kq0 kq3 hkl hkh
            obtain ⟨a, b, c, rfl⟩ : ∃ a b c, es = [a, b, c] := by
              match es, hel with
              | [a, b, c], _ => exact ⟨a, b, c, rfl⟩
            have p0 := (HB1.out.look (k := 0) (e := a) rfl).1
            have p1 := (HB1.out.look (k := 1) (e := b) rfl).1
            have p2 := (HB1.out.look (k := 2) (e := c) rfl).1
            rcases first_or [a, b, c] with hn | ⟨i, f, x, l, hf⟩
            · have HN := Lib.hid hn
              have HFi := Lib.hid (fun A cap W (h : Bos w W pb pw [a, b, c]) (hs : Sl W A [a.ptr, .pointer none, b.ptr, c.ptr]) => bosFirst_none w W pb pw a b c A cap h HG.out hn hs)
              have HB2 := Lib.hid (HB1.out.below ((Below.refl _ _).alloc (Nat.le_refl _) (.cells #[.pointer (some ⟨a.p, 0, none⟩), .pointer none, .pointer (some ⟨b.p, 0, none⟩), .pointer (some ⟨c.p, 0, none⟩)] 24)))
              have HSl := Lib.hid (Sl.new (W := wz) (C := #[.pointer (some ⟨a.p, 0, none⟩), .pointer none, .pointer (some ⟨b.p, 0, none⟩), .pointer (some ⟨c.p, 0, none⟩)]) (t := 24) (fr := (0, 0)) (xs := [a.ptr, .pointer none, b.ptr, c.ptr]) rfl rfl)
              clear hn HB1
              go_wp2_with fail
              refine (HFi.out _ _ _ HB2.out HSl.out).mono ?_
              rintro e9 w5 ⟨rfl, rfl⟩
              clear HFi HSl p0 p1 p2
              generalize wz.alloc (.cells #[.pointer (some ⟨a.p, 0, none⟩), .pointer none, .pointer (some ⟨b.p, 0, none⟩), .pointer (some ⟨c.p, 0, none⟩)] 24) = w5 at *
              go_wp2_with fail
              go_loop [19, 20] (fun v t => ∃ (k : Nat), k ≤ 3 ∧ t = .int .i64 ((k : Int) - 1) ∧ v = .int .i64 (-1)) (fun _ t => (intOf t + 1).toNat)
              case atStart => exact ⟨3, Nat.le_refl _, rfl, rfl⟩
              case round =>
                obtain ⟨k, hk, rfl, rfl⟩ := hrel
                cases k with
                | zero =>
                  rw [show ((0 : Nat) : Int) - 1 = -1 from rfl]
                  go_wp2_with fail
                  go_meet
                  exact ⟨_, rfl, HB2, HG⟩
                | succ k =>
                  rw [show ((k + 1 : Nat) : Int) - 1 = (k : Int) by omega]
                  obtain ⟨g, hg⟩ : ∃ g, [a, b, c][k]? = some g := ⟨_, List.getElem?_eq_getElem (by simp; omega)⟩
                  have hgl := HN.out k g hg
                  have l0 := (HB2.out.look hg).2.1
                  rw [hgl, List.length_nil] at l0
                  have k0 : (0 : Int) ≤ (k : Int) := by omega
                  have k3 : (k : Int) < 3 := by omega
                  clear hg hgl
                  go_wp2_with fail
                  go_round
                  case rel => exact ⟨k, by omega, rfl, rfl⟩
                  case measure => simp [intOf]
            · have HF := Lib.hid hf
              have hil : i < 3 := (List.getElem?_eq_some_iff.1 hf.1).1
              have HFi := Lib.hid (fun A cap W (h : Bos w W pb pw [a, b, c]) (hs : Sl W A [a.ptr, .pointer none, b.ptr, c.ptr]) => bosFirst_at w W pb pw a b c A cap i f x l h HG.out hf hs)
              have HB2 := Lib.hid (HB1.out.below ((Below.refl _ _).alloc (Nat.le_refl _) (.cells #[.pointer (some ⟨a.p, 0, none⟩), .pointer none, .pointer (some ⟨b.p, 0, none⟩), .pointer (some ⟨c.p, 0, none⟩)] 24)))
              have HSl := Lib.hid (Sl.new (W := wz) (C := #[.pointer (some ⟨a.p, 0, none⟩), .pointer none, .pointer (some ⟨b.p, 0, none⟩), .pointer (some ⟨c.p, 0, none⟩)]) (t := 24) (fr := (0, 0)) (xs := [a.ptr, .pointer none, b.ptr, c.ptr]) rfl rfl)
              have HP0 : Hid (i = 0 → ((placeM i : Nat) : Int) = 0) := (show _ → _ from fun h => by rw [h]; rfl)
              have HP1 : Hid (i ≠ 0 → ((placeM i : Nat) : Int) = (i : Int) + 1) := (show _ → _ from fun h => by unfold placeM; rw [if_neg h]; rfl)
              generalize ((placeM i : Nat) : Int) = pl at HFi HP0 HP1
              have hlv := hf.2.1
              have HFst := Lib.hid (fun W (h : Bos w W pb pw ([a, b, c].set i { f with buf := l })) => h.first (x := x) (l := l) (set_self hf.1 _) hlv)
              have HCT := Lib.hid (fun W b o (h : Bos w W pb pw ([a, _, c].set i { f with buf := l })) (hL : f.L = some ⟨b, o, none⟩) => h.cut1 (x := x) (l := l) (set_self hf.1 _) hlv hL)
              have HLk := Lib.hid (fun W (h : Bos w W pb pw ([a, b, c].set i { f with buf := l })) => (h.look (set_self hf.1 _)).2.1)
              have HLn : Hid (∀ W (k : Nat), k < 3 → Bos w W pb pw ([a, b, c].set i { f with buf := l }) → ∃ (D : Option Addr) (n q : Nat), W.cell? ⟨pw, k * 3, none⟩ = some (.slice D n q) ∧ (k < i → n = 0) ∧ (k = i → n = l.length + 1)) := (show ∀ _, _ from fun W k hk h => by
                by_cases hki : k = i
                · subst hki
                  have h9 := (h.look (set_self hf.1 _)).2.1
                  simp only [hlv, List.length_cons] at h9
                  exact ⟨_, _, _, h9, fun h => by omega, fun _ => rfl⟩
                · obtain ⟨g, hg⟩ : ∃ g, [a, b, c][k]? = some g := ⟨_, List.getElem?_eq_getElem (by simp; omega)⟩
                  have h9 := (h.look (k := k) (e := g) (by rw [List.getElem?_set, if_neg (fun e => hki e.symm)]; exact hg)).2.1
                  exact ⟨_, _, _, h9, fun h => by rw [hf.2.2 k g h hg]; rfl, fun h => absurd h hki⟩)
              have HGd := Lib.hid (fun e' (h : e'.buf = e'.l ∧ e'.bc = e'.cl ∧ e'.l.length ≤ e'.cap ∧ e'.cap ≤ 6) => good_set (k := i) (e := e') HG.out h)
              have HC : Hid (l.length ≤ f.cap ∧ f.bc = f.cl ∧ f.cap ≤ 6) := (show _ ∧ _ from by
                obtain ⟨q1, q2, q3, q4⟩ := HG.out f (List.mem_of_getElem? hf.1)
                rw [hlv] at q3; simp at q3; exact ⟨by omega, q2, q4⟩)
              have hkc := (HB1.out.on i f hf.1).2.1.2.1
              rw [hlv, List.length_cons] at hkc
              simp only at HFst HCT HLk
              have hl1 : f.l.length = l.length + 1 := by rw [hlv]; rfl
              rw [hl1] at HLk
              clear hf HB1 hlv hl1 HG
              go_wp2_with fail
              refine (HFi.out _ _ _ HB2.out HSl.out).mono ?_
              rintro e9 w5 ⟨rfl, hB5⟩
              have HB5 := Lib.hid hB5
              obtain ⟨bb, oo, hL, cx⟩ := HFst.out _ hB5
              have l0 := HLk.out _ hB5
              rw [hL] at l0
              have f0 := hB5.w.frozen (i * 3)
              obtain ⟨HC1, HC2⟩ := HCT.out w5 bb oo hB5 hL
              have HLn5 := Lib.hid (fun k hk => HLn.out w5 k hk hB5)
              have HC1 := Lib.hid HC1
              have HC2 := Lib.hid HC2
              clear HFi HSl p0 p1 p2 HB2 hB5 HFst HLk HCT HLn hL
              go_wp2_with fail
              go_loop [19, 20] (fun v t => ∃ (k : Nat) (z : Int), k ≤ 3 ∧ t = .int .i64 ((k : Int) - 1) ∧ v = .int .i64 z ∧ (k ≤ i → z = i)) (fun _ t => (intOf t + 1).toNat)
              case atStart => exact ⟨3, -1, Nat.le_refl _, rfl, rfl, fun h => by omega⟩
              case round =>
                obtain ⟨k, z, hk, rfl, rfl, hz⟩ := hrel
                cases k with
                | zero =>
                  rw [show ((0 : Nat) : Int) - 1 = -1 from rfl]
                  obtain rfl := hz (Nat.zero_le _)
                  have i0 : (0 : Int) ≤ (i : Int) := by omega
                  have i3 : (i : Int) < 3 := by omega
                  have z0 : (0 : Int) < ((l.length + 1 : Nat) : Int) := by omega
                  have z1 : (1 : Int) ≤ ((l.length + 1 : Nat) : Int) := by omega
                  have ex : (x != x) = false := by simp
                  have dn : decide ((i : Int) < 0) = false := decide_eq_false (by omega)
                  replace HC1 := HC1.out
                  replace HC2 := HC2.out
                  clear HLn5 HB5 hz
                  by_cases hi0 : i = 0
                  · have hp := HP0.out hi0
                    subst hi0
                    rw [hp]
                    clear HP0 HP1 hp
                    by_cases hk1 : f.kc = 1
                    · obtain ⟨h9, HC3⟩ := HC1 hk1
                      subst h9
                      have HB6 := Lib.hid HC3
                      have HG6 := Lib.hid (HGd.out { f with buf := [], l := [], L := some ⟨bb, oo, none⟩, kc := 0 } ⟨rfl, HC.out.2.1, Nat.zero_le _, HC.out.2.2⟩)
                      rw [hk1] at l0
                      clear HC1 HC2 HC3 HGd hk1
                      go_wp2_with fail
                      go_meet
                      exact ⟨_, by simp, HB6, (show Hid (GoodM _) from by rw [List.set_set]; exact HG6)⟩
                    · have HB6 := Lib.hid (HC2 hk1)
                      have HG6 := Lib.hid (HGd.out { f with buf := l, l := l, L := some ⟨bb, oo + 1, none⟩, kc := f.kc - 1 } ⟨rfl, HC.out.2.1, HC.out.1, HC.out.2.2⟩)
                      have hkc2 : (1 : Int) < (f.kc : Int) := by omega
                      clear HC1 HC2 HGd hk1
                      go_wp2_with fail
                      go_meet
                      exact ⟨_, by simp, HB6, (show Hid (GoodM _) from by rw [List.set_set]; exact HG6)⟩
                  · have hp := HP1.out hi0
                    have di : decide ((0 : Int) < (i : Int)) = true := decide_eq_true (by omega)
                    have ep : (((i : Int) + 1) != ((i : Int) + 1)) = false := by simp
                    rw [hp]
                    clear HP0 HP1 hp
                    by_cases hk1 : f.kc = 1
                    · obtain ⟨h9, HC3⟩ := HC1 hk1
                      subst h9
                      have HB6 := Lib.hid HC3
                      have HG6 := Lib.hid (HGd.out { f with buf := [], l := [], L := some ⟨bb, oo, none⟩, kc := 0 } ⟨rfl, HC.out.2.1, Nat.zero_le _, HC.out.2.2⟩)
                      rw [hk1] at l0
                      clear HC1 HC2 HC3 HGd hk1
                      go_wp2_with fail
                      go_meet
                      exact ⟨_, by simp, HB6, (show Hid (GoodM _) from by rw [List.set_set]; exact HG6)⟩
                    · have HB6 := Lib.hid (HC2 hk1)
                      have HG6 := Lib.hid (HGd.out { f with buf := l, l := l, L := some ⟨bb, oo + 1, none⟩, kc := f.kc - 1 } ⟨rfl, HC.out.2.1, HC.out.1, HC.out.2.2⟩)
                      have hkc2 : (1 : Int) < (f.kc : Int) := by omega
                      clear HC1 HC2 HGd hk1
                      go_wp2_with fail
                      go_meet
                      exact ⟨_, by simp, HB6, (show Hid (GoodM _) from by rw [List.set_set]; exact HG6)⟩
                | succ k =>
                  rw [show ((k + 1 : Nat) : Int) - 1 = (k : Int) by omega]
                  obtain ⟨D, m, q9, lk, hlt9, heq9⟩ := HLn5.out k (by omega)
                  have k0 : (0 : Int) ≤ (k : Int) := by omega
                  have k3 : (k : Int) < 3 := by omega
                  by_cases hm : 0 < m
                  · have dm : decide ((0 : Int) < (m : Int)) = true := decide_eq_true (by omega)
                    have hge : i ≤ k := by
                      rcases Nat.lt_or_ge k i with h | h
                      · have := hlt9 h; omega
                      · exact h
                    clear hlt9 heq9 hz
                    go_wp2_with fail
                    go_round
                    case rel => exact ⟨k, (k : Int), by omega, rfl, rfl, fun h => by omega⟩
                    case measure => simp [intOf]
                  · have dm : decide ((0 : Int) < (m : Int)) = false := decide_eq_false (by omega)
                    have hne : k ≠ i := fun h => by have := heq9 h; omega
                    have hz2 : k ≤ i → z = i := fun h => hz (by omega)
                    have dmN : decide (0 < m) = false := decide_eq_false hm
                    clear hlt9 heq9 hz hm
                    go_wp2_with fail
                    go_round
                    case rel => exact ⟨k, z, by omega, rfl, rfl, hz2⟩
                    case measure => simp [intOf]
          · have n4 : (rk == 4) = false := beq_eq_false_iff_ne.2 k4
            clear l0 l1 l2 lp y2 g1 g2 g3 g4
            go_wp2_with fail
            go_meet
            exact ⟨es, hel, HB1, HG⟩
        case rest => as_aux_lemma =>
          clear HB1 HG HE HGe HQ HO y2 hd3
          obtain ⟨es', hel', HB', HG'⟩ := hcut
          go_wp2_with fail
          go_loopw [22] (fun t wr => ∃ (k : Nat), k ≤ 3 ∧ t = .int .i64 k ∧ Hid (Bos w wr pb pw es')) (fun t _ => 3 - (intOf t).toNat)
          case atStart => exact ⟨0, Nat.zero_le _, rfl, HB'⟩
          case round =>
            clear HB'
            obtain ⟨k, hk, rfl, HB'⟩ := hrel
            by_cases hlt3 : k < 3
            · obtain ⟨g, hg⟩ : ∃ g, es'[k]? = some g := ⟨_, List.getElem?_eq_getElem (by omega)⟩
              obtain ⟨lp, l0, l1, l2⟩ := HB'.out.look hg
              obtain ⟨g1, g2, _⟩ := HG'.out g (List.mem_of_getElem? hg)
              have HL := Lib.hid (fun W (h : Bos w W pb pw es') => blen_ok w W pb pw es' k g h hg)
              have HC := Lib.hid (fun W (h : Bos w W pb pw es') => bclosed_ok w W pb pw es' k g h hg)
              rw [g1] at HL
              rw [g2] at HC
              have k0 : (0 : Int) ≤ (k : Int) := by omega
              have k3 : (k : Int) < 3 := by omega
              have e1 : ((g.l.length : Int) != (g.l.length : Int)) = false := by simp
              have e2 : (g.cl != g.cl) = false := by cases g.cl <;> rfl
              clear hg g1 g2 l1
              go_wp2_with fail
              go_quiet ((first | (go_at_call 18; exact quietEqM (HL.out _ (HB'.out.drewN _))) | (go_at_call 19; exact quietEqM (HC.out _ (HB'.out.drewN _)))))
              have HB2 := Lib.hid (HB'.out.drewN nq)
              clear HL HC HB' lp l0 l2
              go_wp2_with fail
              go_roundw
              case rel => exact ⟨k + 1, by omega, by go_num, HB2⟩
              case measure => simp [intOf]; omega
            · go_wp2_with fail
              go_roundw
              case rel => exact ⟨j + 1, es', by omega, by omega, by go_num, hel', HB', HG'⟩
              case measure => simp [intOf]; omega
      · by_cases hlt : j < rs.length
        all_goals
          first
            | (have hd4 : decide ((j : Int) < 200) = false := decide_eq_false (by omega))
            | skip
          clear hin
          go_wp2_with fail
          refine (mailRuns_calls _).mono ?_
          rintro e w5 ⟨rfl, b5⟩
          go_wp2_with fail
          go_ret
          exact ⟨rfl, HB.out.bel.trans (b5.mono HB.out.bel.size)⟩
end Go.Proofs.Ytepmnhlfjidhjab
