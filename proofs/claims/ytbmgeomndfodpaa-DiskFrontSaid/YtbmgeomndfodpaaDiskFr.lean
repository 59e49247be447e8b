/-
  DiskFront: of files that are only appended to each has, behind any Back, a beginning of its bytes.
-/
import Derived.Test.YtbmgeomndfodpaaDiskFrS
import Derived.Test.YtbmgeomndfodpaaWithin
import Derived.Deep.CutBlock
import Derived.Deep.DeepCutAuto
namespace Go.Proofs.Ytbmgeomndfodpaa
open Go.RowKit Go.Mem Go.Proofs

/-- what holds ahead of part j -/
structure FrL (k j : Nat) (w0 w : World) (d ab wb : Nat) (W : List MW) (al : Nat → Sb) (a : Nat → List UInt8) (wv : Nat → Nat) (S : Nat → Prop) : Prop where
  m : FrS j (j * 16777217) w0 w d ab wb W al a wv S
  t : Frt k W a wv
  tot : totF (replay [] W) ≤ 200 * j
  ex : ∀ f, f < 2 → (getF (nmF f) (replay [] W)).isSome = decide (f < j)
  len : ∀ f, f < 2 → (a f).length ≤ 200 * j
theorem FrL.no {k j : Nat} {w0 w : World} {d ab wb : Nat} {W : List MW} {al : Nat → Sb} {a : Nat → List UInt8} {wv : Nat → Nat} {S : Nat → Prop} (h : FrL k j w0 w d ab wb W al a wv S) (hj : j < 12) {f : Nat} {p : List UInt8} (hp : p.length ≤ 200) : dappNo (nmF f) p (replay [] W) = 0 := by
  unfold dappNo
  have := h.tot
  rw [nmF_right, if_pos rfl, if_neg (by omega)]
/-- the writes of part j -/
def frWt (f : Nat) (W : List MW) (p : List UInt8) : List MW := W ++ (appC (nmF f) (replay [] W) ++ (pieces p).map (groX (nmF f)))
theorem FrL.wt {k j : Nat} {w0 w : World} {d ab wb : Nat} {W : List MW} {al : Nat → Sb} {a : Nat → List UInt8} {wv : Nat → Nat} {S : Nat → Prop} (h : FrL k j w0 w d ab wb W al a wv S) (hj : j < 12) {f : Nat} {p : List UInt8} (hp : p.length ≤ 200) : W ++ dappW (nmF f) p (replay [] W) = frWt f W p := by
  unfold dappW frWt
  rw [if_pos (h.no hj hp)]
theorem FrL.begin {k j : Nat} {w0 w : World} {d ab wb : Nat} {W : List MW} {al : Nat → Sb} {a : Nat → List UInt8} {wv : Nat → Nat} {S : Nat → Prop} (h : FrL k j w0 w d ab wb W al a wv S) {f : Nat} (hf : f = j % 2) (p : List UInt8) : ∃ Wc, Wc.length = (if j < 2 then W.length + 1 else W.length) ∧ FrW k f (frWt f W p) Wc a p p wv := by
  have hf2 : f < 2 := by omega
  have hex := h.ex f hf2
  have hsame : upd a f (a f ++ p.take (p.length - p.length)) = a := by
    funext g
    unfold upd
    split
    · next e => rw [Nat.sub_self, List.take_zero, List.append_nil, e]
    · rfl
  have hr : p = p.drop (p.length - p.length) := by rw [Nat.sub_self]; rfl
  by_cases hj : j < 2
  · have hfj : ¬ f < j := by omega
    rw [decide_eq_false hfj] at hex
    have hno : getF (nmF f) (replay [] W) = none := by
      cases hg : getF (nmF f) (replay [] W) with
      | none => rfl
      | some v => rw [hg] at hex; cases hex
    refine ⟨W ++ [creX (nmF f)], by rw [if_pos hj]; simp, ⟨?_, by rw [hsame]; exact h.t.cre hf2 hno, hr⟩⟩
    unfold frWt appC
    rw [hex, if_neg (by decide)]; simp
  · have hfj : f < j := by omega
    rw [decide_eq_true hfj] at hex
    refine ⟨W, by rw [if_neg hj], ⟨?_, by rw [hsame]; exact h.t, hr⟩⟩
    unfold frWt appC
    rw [hex, if_pos rfl]; simp
/-- behind part j -/
theorem FrL.next {k j : Nat} {w0 w w' : World} {d ab wb : Nat} {W : List MW} {al al' : Nat → Sb} {a : Nat → List UInt8} {wv wv' : Nat → Nat} {S S' : Nat → Prop} (h : FrL k j w0 w d ab wb W al a wv S) (hj : j < 12) {f : Nat} (hf : f = j % 2) {p : List UInt8} (hp : p.length ≤ 200) (m : FrS (j + 1) ((j + 1) * 16777217) w0 w' d ab wb (frWt f W p) al' (upd a f (a f ++ p)) wv' S') (t : Frt k (frWt f W p) (upd a f (a f ++ p)) wv') : FrL k (j + 1) w0 w' d ab wb (frWt f W p) al' (upd a f (a f ++ p)) wv' S' := by
  have hf2 : f < 2 := by omega
  have hr := rise0 W
  have hrep : replay [] (frWt f W p) = setF (nmF f) (bytesF (nmF f) (replay [] W) ++ p) (replay [] W) := by
    rw [← h.wt hj hp]; exact replay_append hr (h.no hj hp)
  have htot := h.tot
  refine ⟨m, t, ?_, fun f' hf' => ?_, fun f' hf' => ?_⟩
  · rw [hrep]
    have := totF_set (nmF f) (bytesF (nmF f) (replay [] W) ++ p) (replay [] W) hr
    have hbl : ((getF (nmF f) (replay [] W)).getD []).length = (bytesF (nmF f) (replay [] W)).length := rfl
    rw [hbl, List.length_append] at this
    omega
  · rw [hrep, getF_setF _ hr]
    by_cases e : f' = f
    · subst e
      rw [if_pos rfl, decide_eq_true (by omega)]; rfl
    · rw [if_neg (nmF_ne hf2 hf' e), h.ex f' hf']
      by_cases e1 : f' < j
      · rw [decide_eq_true e1, decide_eq_true (by omega)]
      · rw [decide_eq_false e1, decide_eq_false (by omega)]
  · by_cases e : f' = f
    · subst e
      rw [upd_same, List.length_append]
      have := h.len f' hf'; omega
    · rw [upd_ne _ _ e]
      have := h.len f' hf'; omega
set_option maxRecDepth 100000 in
set_option maxHeartbeats 6400000 in
theorem diskFront_calls (A0 : Option Addr) (n0 c0 : Nat) (ps0 : List Part) (a1 : Int) (w : World) (hl0 : ps0.length = n0) (hs0 : Sl w A0 (ps0.map Part.cell)) (hp0 : ∀ p ∈ ps0, p.bs.length ≤ 9223372036854775807 ∧ p.bs.length ≤ p.cap ∧ Sl w p.A (p.bs.map B8)) (ha : -9223372036854775808 ≤ a1 ∧ a1 ≤ 9223372036854775807) : Calls Try.prog 12 #[.slice A0 n0 c0, .int .i64 a1] w fun e w' => e = .returned (.bool true) ∧ Below w.heap.size w w' := by
  have HCELL : Hid (∀ W : World, Below w.heap.size w W → ∀ (j : Nat) (r : Part), ps0[j]? = some r → ∃ b o, A0 = some ⟨b, o, none⟩ ∧ W.cell? ⟨b, o + j, none⟩ = some (.slice r.A r.bs.length r.cap)) := (show ∀ W : World, _ from fun W hW j r hr => by
    obtain ⟨b, o, e, hc⟩ := (hs0.below hW) j (Part.cell r) (by rw [List.getElem?_map, hr]; rfl)
    exact ⟨b, o, e, hc⟩)
  have HPART : Hid (∀ j (h : j < ps0.length), ps0[j].bs.length ≤ ps0[j].cap ∧ Sl w ps0[j].A (ps0[j].bs.map B8)) := (show ∀ j h, _ from fun j h => (hp0 _ (List.getElem_mem h)).2)
  have HL0 := Lib.hid hl0
  clear hs0 hp0 hl0
  obtain ⟨i0, hi, hz0, hz1, hz2⟩ := info_parts infoU8
  have HI : Hid (Try.prog.info? 5 = some i0 ∧ i0.zero = some (.int .u8 0) ∧ i0.size = 1 ∧ i0.bytes = 1) := ⟨hi, hz0, hz1, hz2⟩
  clear hi hz0 hz1 hz2
  go_enter Try.func12, Try.ntmps12
  go_wp2_with fail
  refine (dnew_calls w).mono ?_
  rintro e w1 ⟨d, S1, rfl, h1, b1⟩
  have HWi := Lib.hid (within_calls a1 0 80 ((w1.alloc (.cells #[.slice none 0 0, .slice none 0 0] 84)).alloc (.cells #[.int .i64 0, .int .i64 0] 85)) (by decide) (by decide) (by decide) ha)
  obtain ⟨kk, hkk⟩ : ∃ kk : Nat, within a1 0 80 = (kk : Int) ∧ kk ≤ 80 := ⟨(within a1 0 80).toNat, by have e1 := within_ge a1 0 80 (by decide); have e2 := within_le a1 0 80 (by decide); omega⟩
  rw [hkk.1] at HWi
  have hk80 := hkk.2
  clear hkk
  have HF0 : Hid (FrL kk 0 w ((w1.alloc (.cells #[.slice none 0 0, .slice none 0 0] 84)).alloc (.cells #[.int .i64 0, .int .i64 0] 85)) d w1.heap.size (w1.heap.size + 1) [] (fun _ => ⟨none, 0, 0⟩) (fun _ => []) (fun _ => 0) S1) := (show FrL _ _ _ _ _ _ _ _ _ _ _ _ from by
    have hx1 := (Below.refl w1.heap.size w1).alloc (Nat.le_refl _) (.cells #[.slice none 0 0, .slice none 0 0] 84)
    have hx2 : Below w1.heap.size w1 ((w1.alloc (.cells #[.slice none 0 0, .slice none 0 0] 84)).alloc (.cells #[.int .i64 0, .int .i64 0] 85)) := hx1.alloc (by simp) _
    have hb1 := Blk.new w1 84 #[.slice none 0 0, .slice none 0 0]
    have hb2 := Blk.new (w1.alloc (.cells #[.slice none 0 0, .slice none 0 0] 84)) 85 #[.int .i64 0, .int .i64 0]
    have hsz : (w1.alloc (.cells #[.slice none 0 0, .slice none 0 0] 84)).heap.size = w1.heap.size + 1 := by simp
    rw [hsz] at hb2
    exact ⟨⟨h1.below hx2, hb1.alloc _, hb2, fun f _ => ⟨rfl, OwnB.nil _ _ _ _⟩, fun f f' _ _ _ g hg => (by cases hg), fun e => (by have := (h1.y.lt _ e).2; omega), fun e => (by have := (h1.y.lt _ e).2; omega), fun f _ g hg => (by cases hg), b1.size, Nat.le_trans b1.size (Nat.le_succ _), b1.trans (hx2.mono b1.size)⟩, Frt.nil kk, by show 0 ≤ _; omega, fun f _ => (by rw [decide_eq_false (Nat.not_lt_zero f)]; rfl), fun f _ => (by show 0 ≤ _; omega)⟩)
  clear h1 b1
  go_wp2_with fail
  generalize w1.heap.size = ab at *
  generalize ab + 1 = wb at *
  refine HWi.out.mono ?_
  rintro e w2 ⟨rfl, hw2⟩
  rw [hw2] at HF0
  clear hw2 HWi
  go_upto_block 0 with fail
  go_cut [7, 10, 11, 12, 13] from 22 to 84 (fun s7 s10 s11 s12 s13 wx => ∃ (W : List MW) (al : Nat → Sb) (a : Nat → List UInt8) (wv : Nat → Nat) (S : Nat → Prop) (j : Nat), s7 = .int .i64 (W.length : Int) ∧ Hid (j ≤ 12 ∧ FrL kk j w wx d ab wb W al a wv S))
  case first =>
    go_wp2_with fail
    go_loopw [7, 10, 11, 12, 13] (fun s7 s10 _ _ _ wr => ∃ (j : Nat) (W : List MW) (al : Nat → Sb) (a : Nat → List UInt8) (wv : Nat → Nat) (S : Nat → Prop), j ≤ 12 ∧ j ≤ n0 ∧ s10 = .int .i64 j ∧ s7 = .int .i64 (W.length : Int) ∧ Hid (FrL kk j w wr d ab wb W al a wv S)) (fun _ s10 _ _ _ _ => 12 - (intOf s10).toNat)
    case atStart => exact ⟨0, [], _, _, _, S1, by decide, Nat.zero_le _, rfl, rfl, HF0⟩
    case round =>
      obtain ⟨j, W, al, a, wv, S, hj, hjn, rfl, rfl, HF⟩ := hrel
      clear HF0
      by_cases hin : j < n0 ∧ j < 12
      · obtain ⟨hlt, h12⟩ := hin
        have j0 : (0 : Int) ≤ (j : Int) := by omega
        have j1 : (j : Int) < (n0 : Int) := by omega
        have j2 : (j : Int) < 12 := by omega
        have hw1 : IntKind.i64.wrap ((j : Int) + 1) = (j : Int) + 1 := by rw [IntKind.wrap_i64]; omega
        have hjl : j < ps0.length := by rw [HL0.out]; exact hlt
        obtain ⟨b, o, eA, q0⟩ := HCELL.out wr HF.out.m.bb j ps0[j] (List.getElem?_eq_getElem hjl)
        obtain ⟨hpc, hpS⟩ := HPART.out j hjl
        have HPS := Lib.hid hpS
        clear hpS
        generalize ps0[j] = r at *
        obtain ⟨pA, pc, pb⟩ := r
        simp only at q0 hpc HPS
        obtain ⟨pl, hpl⟩ : ∃ pl, pb.length = pl := ⟨_, rfl⟩
        rw [hpl] at q0 hpc
        have HPL := Lib.hid hpl
        clear hpl
        subst eA
        have HRAW := Lib.hid HF.out.m.h.g.n
        have hraw : W.length ≤ 300000000 := by have := HRAW.out; omega
        obtain ⟨f, hf⟩ : ∃ f, f = j % 2 := ⟨_, rfl⟩
        have hf2 : f < 2 := by omega
        have hrem : Int.tmod (j : Int) 2 = (f : Int) := by rw [Int.tmod_eq_emod_of_nonneg (by omega)]; omega
        have f0 : (0 : Int) ≤ (f : Int) := by omega
        have f1 : (f : Int) < 2 := by omega
        have HFE := Lib.hid hf
        clear hf HRAW
        by_cases hbig : 200 < pl
        · have g1 : (200 : Int) < (pl : Int) := by omega
          have g2 : (200 : Int) ≤ (pc : Int) := by omega
          obtain ⟨n, hn⟩ : ∃ n, n = 200 := ⟨_, rfl⟩
          obtain ⟨p, hp⟩ : ∃ p, p = pb.take 200 := ⟨_, rfl⟩
          have HPn : Hid (p.length = n) := (show _ = _ from by rw [hp, hn, List.length_take, HPL.out]; omega)
          have HSP : Hid (Sl w pA (p.map B8)) := (show Sl _ _ _ from by rw [hp, List.map_take]; exact HPS.out.take 200)
          have hnc : n ≤ pc := by omega
          have hn2 : n ≤ 200 := by omega
          clear hp hbig HPS HPL hpc
          go_upto_region 14 with fail
          rw [← hn]
          clear hn g1 g2 q0
          obtain ⟨Wc0, hWc0, hFW0⟩ := HF.out.begin HFE.out p
          have HW0 := Lib.hid hWc0
          have HFW0 := Lib.hid hFW0
          clear hWc0 hFW0
          by_cases hj2 : j < 2
          · have j3 : (j : Int) < 2 := by omega
            have hlen0 : Wc0.length = W.length + 1 := by rw [HW0.out, if_pos hj2]
            have hw2 : IntKind.i64.wrap ((W.length : Int) + 1) = (Wc0.length : Int) := by rw [IntKind.wrap_i64, hlen0]; omega
            have hwc : Wc0.length ≤ 300000001 := by omega
            clear hlen0 hj2 hraw HW0
            go_upto_block 2 with fail
            go_wp2_with fail
            go_loopw [7, 13] (fun s7 s13 wq => ∃ (at_ : Nat) (Wc : List MW) (r : List UInt8) (wv' : Nat → Nat), s13 = .int .i64 at_ ∧ s7 = .int .i64 (Wc.length : Int) ∧ at_ ≤ n + 31 ∧ Wc.length ≤ 300000001 + at_ ∧ Hid (r.length = n - at_) ∧ Hid (FrS j (j * 16777217) w wq d ab wb W al a wv' S) ∧ Hid (FrW kk f (frWt f W p) Wc a p r wv')) (fun _ s13 _ => n - (intOf s13).toNat)
            case atStart => exact ⟨0, Wc0, p, wv, rfl, by simp, by omega, by omega, (show _ = _ from by rw [HPn.out]; rfl), HF.out.m, HFW0⟩
            case round =>
              obtain ⟨at_, Wc, r, wv', rfl, rfl, hat, hwcl, HR, HM, HFW⟩ := hrel
              clear HFW0 hwc
              by_cases hlt2 : at_ < n
              · have k0 : (at_ : Int) < (n : Int) := by omega
                have hw3 : IntKind.i64.wrap ((Wc.length : Int) + 1) = (Wc.length : Int) + 1 := by rw [IntKind.wrap_i64]; omega
                have hw4 : IntKind.i64.wrap ((at_ : Int) + 32) = (at_ : Int) + 32 := by rw [IntKind.wrap_i64]; omega
                have HNW : Hid (FrW kk f (frWt f W p) (Wc ++ [groX (nmF f) (r.take 32)]) a p (r.drop 32) (if Wc.length + 1 ≤ kk then upd wv' f ((a f).length + min (at_ + 32) n) else wv')) := (show FrW _ _ _ _ _ _ _ _ from by
                  have hr := HR.out
                  have hp := HPn.out
                  have h := HFW.out.step hf2 (by omega) (by omega)
                  have e1 : p.length - r.length = at_ := by omega
                  rw [e1, hp] at h
                  exact h)
                have HRL : Hid ((r.drop 32).length = n - (at_ + 32)) := (show _ = _ from by rw [List.length_drop, HR.out]; omega)
                have hwl2 : (Wc ++ [groX (nmF f) (r.take 32)]).length = Wc.length + 1 := by simp
                by_cases hkk : Wc.length + 1 ≤ kk
                · have k1 : (Wc.length : Int) + 1 ≤ (kk : Int) := by omega
                  rw [if_pos hkk] at HNW
                  obtain ⟨c1, z1⟩ := HM.out.slice hf2
                  obtain ⟨c2, z2⟩ := HM.out.num hf2
                  have hal : (al f).n = (a f).length := (HM.out.o f hf2).1
                  have hmin : min ((at_ : Int) + 32) (n : Int) = ((min (at_ + 32) n : Nat) : Int) := by omega
                  have hlen := HF.out.len f hf2
                  obtain ⟨mm, hmm⟩ : ∃ mm, mm = min (at_ + 32) n := ⟨_, rfl⟩
                  rw [← hmm] at hmin HNW
                  have hmn : mm ≤ n := by omega
                  have hw5 : IntKind.i64.wrap (((al f).n : Int) + (mm : Int)) = (((a f).length + mm : Nat) : Int) := by rw [IntKind.wrap_i64, hal]; omega
                  have HM2 := Lib.hid (HM.out.setN hf2 ((a f).length + mm))
                  generalize (al f).d = ad at c1
                  generalize (al f).n = an at c1 hw5
                  generalize (al f).c = ac at c1
                  clear hal hlen hmm HM HFW HR hkk
                  go_wp2_with fail
                  exact ⟨⟨at_ + 32, _, r.drop 32, _, by simp, by rw [hwl2]; simp, by omega, by omega, HRL, HM2, HNW⟩, by simp [intOf]; omega⟩
                · have k1 : ¬ (Wc.length : Int) + 1 ≤ (kk : Int) := by omega
                  rw [if_neg hkk] at HNW
                  clear HFW HR hkk
                  go_wp2_with fail
                  exact ⟨⟨at_ + 32, _, r.drop 32, _, by simp, by rw [hwl2]; simp, by omega, by omega, HRL, HM, HNW⟩, by simp [intOf]; omega⟩
              · have k0 : ¬ (at_ : Int) < (n : Int) := by omega
                have HEnd : Hid (Wc = frWt f W p ∧ Frt kk (frWt f W p) (upd a f (a f ++ p)) wv') := (show _ ∧ _ from by
                  have hr0 : r = [] := List.eq_nil_of_length_eq_zero (by rw [HR.out]; omega)
                  subst hr0
                  have he := HFW.out.e
                  rw [pieces_nil, List.map_nil, List.append_nil] at he
                  have ht := HFW.out.t
                  simp only [List.length_nil, Nat.sub_zero, List.take_length] at ht
                  rw [he] at ht
                  exact ⟨he, ht⟩)
                obtain ⟨c1, z1⟩ := HM.out.slice hf2
                obtain ⟨hal, hao⟩ := HM.out.o f hf2
                have hlen := HF.out.len f hf2
                have HO := Lib.hid hao
                have HSR := Lib.hid (srcSl (tx := 27) (n := n) (c := pc) Try.underlying27 (by rw [List.length_map]; exact HPn.out) (HSP.out.below HM.out.bb) (bytes_one p))
                have hBq : w.heap.size ≤ wr.heap.size := HM.out.bb.size
                have hb63 : (al f).n + n ≤ 100000 := by omega
                have HApp : Hid (∀ w5 D5 c5, OwnB w5 w.heap.size 5 1 D5 ((al f).n + n) c5 ((a f).map B8 ++ p.map B8) → Kept wr w5 (al f).d D5 → Below w.heap.size wr w5 → wr.heap.size ≤ w5.heap.size → w5.cell? ⟨ab, f, none⟩ = some (.slice (al f).d (al f).n (al f).c) ∧ w5.frozen? ⟨ab, f, none⟩ = false ∧ Hid (FrS j (j * 16777217) w (w5.setCell ⟨ab, f, none⟩ (.slice D5 ((al f).n + n) c5)) d ab wb W (upd al f ⟨D5, (al f).n + n, c5⟩) (upd a f (a f ++ p)) wv' S)) := (show ∀ w5 D5 c5, _ from fun w5 D5 c5 ho kp bb hs => by
                  have hm := HM.out
                  have hb5 := kp.blk hm.ba (own_ne_blkN (hm.o f hf2).2 hm.ba (by decide))
                  refine ⟨by rw [hb5.cell]; exact two (fun f => (al f).val) hf2, hb5.frozen f, (show FrS _ _ _ _ _ _ _ _ _ _ _ _ from hm.app hf2 (p := p) (by rw [(hm.o f hf2).1, HPn.out]) (by rw [List.map_append]; exact ho) kp bb hs)⟩)
                generalize hgd : (al f).d = ad at c1 HO HApp
                generalize hgn : (al f).n = an at c1 HO HApp hb63
                generalize hgc : (al f).c = ac at c1 HO HApp
                obtain ⟨hi, hz0, hz1, hz2⟩ := HI.out
                clear hgd hgn hgc hao hal hlen HM HFW HR
                go_wp2_with (at_builtin; refine wpList_append_ownK (o := ⟨some 75, _, _, _, _, _⟩) rfl (.tmp 73) (.tmp 74) 27 27 rfl 5 i0 (.int .u8 0) 1 1 Try.underlying27 hi hz0 hz1 hz2 rfl w.heap.size ad an ac ((a f).map B8) rfl HO.out (.slice pA n pc) rfl n (p.map B8) HSR.out (by omega) (by omega) wr (Below.refl _ _) hBq ?_)
                intro w5 D5 c5 HO5 HK5 hb5 hsz5
                obtain ⟨c5a, z5, HM5⟩ := HApp.out w5 D5 c5 HO5.out HK5.out hb5 hsz5
                clear HApp HO HSR HO5 HK5 hb5 hsz5 c1 z1 hBq hb63 hi hz0 hz1 hz2
                go_upto_region 24 with fail
                generalize w5.setCell ⟨ab, f, none⟩ (.slice D5 (an + n) c5) = w6 at *
                clear c5a z5
                have HM6 := Lib.hid (HM5.out.below ((Below.refl _ _).alloc (Nat.le_refl _) (.cells #[.string ⟨#[102]⟩, .string ⟨#[103]⟩] 9)))
                have c6 : (w6.alloc (.cells #[.string ⟨#[102]⟩, .string ⟨#[103]⟩] 9)).cell? ⟨w6.heap.size, f, none⟩ = some (.string (nmF f)) := by
                  rw [(Blk.new w6 9 #[.string ⟨#[102]⟩, .string ⟨#[103]⟩]).cell]
                  have h01 : f = 0 ∨ f = 1 := by omega
                  rcases h01 with rfl | rfl <;> rfl
                have HCa : Hid (Calls Try.prog 34 #[.pointer (some ⟨d, 0, none⟩), .string (nmF f), .slice pA n pc] (w6.alloc (.cells #[.string ⟨#[102]⟩, .string ⟨#[103]⟩] 9)) fun e w' => e = .returned (.int .i64 0) ∧ Hid (∃ S', FrL kk (j + 1) w w' d ab wb (frWt f W p) (upd al f ⟨D5, an + n, c5⟩) (upd a f (a f ++ p)) wv' S')) := (show Calls _ _ _ _ _ from by
                  have hj12 := h12
                  have hpl := HPn.out
                  have hno := HF.out.no hj12 (f := f) (p := p) (by omega)
                  have hwt := HF.out.wt hj12 (f := f) (p := p) (by omega)
                  have hks : (nmF f).size ≤ 9223372036854775807 := by unfold nmF; split <;> decide
                  have hNj : (j + 1) * 16777217 = j * 16777217 + 16777217 := by omega
                  refine (dappendW HM6.out.h (nmF f) pA n pc p hno hwt HPn.out HSP.out HM6.out.bb hks rfl hNj (by omega) (by omega)).mono ?_
                  rintro e w' ⟨rfl, S', r1, r2, r3⟩
                  exact ⟨rfl, (show ∃ S', _ from ⟨S', HF.out.next hj12 HFE.out (by omega) ((HM6.out.call r1 r2 r3).2 rfl) HEnd.out.2⟩)⟩)
                have HLn := Lib.hid (show Wc.length = (frWt f W p).length from by rw [HEnd.out.1])
                generalize nmF f = nf at c6 HCa
                clear HM5 HM6
                go_wp2_with fail
                refine HCa.out.mono ?_
                rintro e w7 ⟨rfl, HX7⟩
                obtain ⟨S7, h7⟩ := HX7.out
                have H7 := Lib.hid h7
                have hln := HLn.out
                clear HCa h7 HX7 c6 HLn
                go_wp2_with fail
                exact ⟨⟨j + 1, _, _, _, _, S7, by omega, by omega, by simp, (by first | rfl | rw [hln]), H7⟩, by simp [intOf]; omega⟩
          · have j3 : ¬ (j : Int) < 2 := by omega
            have hlen0 : W.length = Wc0.length := by rw [HW0.out, if_neg hj2]
            have hwc : Wc0.length ≤ 300000001 := by omega
            clear hj2 hraw HW0
            go_upto_block 2 with fail
            rw [hlen0]
            clear hlen0
            go_wp2_with fail
            go_loopw [7, 13] (fun s7 s13 wq => ∃ (at_ : Nat) (Wc : List MW) (r : List UInt8) (wv' : Nat → Nat), s13 = .int .i64 at_ ∧ s7 = .int .i64 (Wc.length : Int) ∧ at_ ≤ n + 31 ∧ Wc.length ≤ 300000001 + at_ ∧ Hid (r.length = n - at_) ∧ Hid (FrS j (j * 16777217) w wq d ab wb W al a wv' S) ∧ Hid (FrW kk f (frWt f W p) Wc a p r wv')) (fun _ s13 _ => n - (intOf s13).toNat)
            case atStart => exact ⟨0, Wc0, p, wv, rfl, by simp, by omega, by omega, (show _ = _ from by rw [HPn.out]; rfl), HF.out.m, HFW0⟩
            case round =>
              obtain ⟨at_, Wc, r, wv', rfl, rfl, hat, hwcl, HR, HM, HFW⟩ := hrel
              clear HFW0 hwc
              by_cases hlt2 : at_ < n
              · have k0 : (at_ : Int) < (n : Int) := by omega
                have hw3 : IntKind.i64.wrap ((Wc.length : Int) + 1) = (Wc.length : Int) + 1 := by rw [IntKind.wrap_i64]; omega
                have hw4 : IntKind.i64.wrap ((at_ : Int) + 32) = (at_ : Int) + 32 := by rw [IntKind.wrap_i64]; omega
                have HNW : Hid (FrW kk f (frWt f W p) (Wc ++ [groX (nmF f) (r.take 32)]) a p (r.drop 32) (if Wc.length + 1 ≤ kk then upd wv' f ((a f).length + min (at_ + 32) n) else wv')) := (show FrW _ _ _ _ _ _ _ _ from by
                  have hr := HR.out
                  have hp := HPn.out
                  have h := HFW.out.step hf2 (by omega) (by omega)
                  have e1 : p.length - r.length = at_ := by omega
                  rw [e1, hp] at h
                  exact h)
                have HRL : Hid ((r.drop 32).length = n - (at_ + 32)) := (show _ = _ from by rw [List.length_drop, HR.out]; omega)
                have hwl2 : (Wc ++ [groX (nmF f) (r.take 32)]).length = Wc.length + 1 := by simp
                by_cases hkk : Wc.length + 1 ≤ kk
                · have k1 : (Wc.length : Int) + 1 ≤ (kk : Int) := by omega
                  rw [if_pos hkk] at HNW
                  obtain ⟨c1, z1⟩ := HM.out.slice hf2
                  obtain ⟨c2, z2⟩ := HM.out.num hf2
                  have hal : (al f).n = (a f).length := (HM.out.o f hf2).1
                  have hmin : min ((at_ : Int) + 32) (n : Int) = ((min (at_ + 32) n : Nat) : Int) := by omega
                  have hlen := HF.out.len f hf2
                  obtain ⟨mm, hmm⟩ : ∃ mm, mm = min (at_ + 32) n := ⟨_, rfl⟩
                  rw [← hmm] at hmin HNW
                  have hmn : mm ≤ n := by omega
                  have hw5 : IntKind.i64.wrap (((al f).n : Int) + (mm : Int)) = (((a f).length + mm : Nat) : Int) := by rw [IntKind.wrap_i64, hal]; omega
                  have HM2 := Lib.hid (HM.out.setN hf2 ((a f).length + mm))
                  generalize (al f).d = ad at c1
                  generalize (al f).n = an at c1 hw5
                  generalize (al f).c = ac at c1
                  clear hal hlen hmm HM HFW HR hkk
                  go_wp2_with fail
                  exact ⟨⟨at_ + 32, _, r.drop 32, _, by simp, by rw [hwl2]; simp, by omega, by omega, HRL, HM2, HNW⟩, by simp [intOf]; omega⟩
                · have k1 : ¬ (Wc.length : Int) + 1 ≤ (kk : Int) := by omega
                  rw [if_neg hkk] at HNW
                  clear HFW HR hkk
                  go_wp2_with fail
                  exact ⟨⟨at_ + 32, _, r.drop 32, _, by simp, by rw [hwl2]; simp, by omega, by omega, HRL, HM, HNW⟩, by simp [intOf]; omega⟩
              · have k0 : ¬ (at_ : Int) < (n : Int) := by omega
                have HEnd : Hid (Wc = frWt f W p ∧ Frt kk (frWt f W p) (upd a f (a f ++ p)) wv') := (show _ ∧ _ from by
                  have hr0 : r = [] := List.eq_nil_of_length_eq_zero (by rw [HR.out]; omega)
                  subst hr0
                  have he := HFW.out.e
                  rw [pieces_nil, List.map_nil, List.append_nil] at he
                  have ht := HFW.out.t
                  simp only [List.length_nil, Nat.sub_zero, List.take_length] at ht
                  rw [he] at ht
                  exact ⟨he, ht⟩)
                obtain ⟨c1, z1⟩ := HM.out.slice hf2
                obtain ⟨hal, hao⟩ := HM.out.o f hf2
                have hlen := HF.out.len f hf2
                have HO := Lib.hid hao
                have HSR := Lib.hid (srcSl (tx := 27) (n := n) (c := pc) Try.underlying27 (by rw [List.length_map]; exact HPn.out) (HSP.out.below HM.out.bb) (bytes_one p))
                have hBq : w.heap.size ≤ wr.heap.size := HM.out.bb.size
                have hb63 : (al f).n + n ≤ 100000 := by omega
                have HApp : Hid (∀ w5 D5 c5, OwnB w5 w.heap.size 5 1 D5 ((al f).n + n) c5 ((a f).map B8 ++ p.map B8) → Kept wr w5 (al f).d D5 → Below w.heap.size wr w5 → wr.heap.size ≤ w5.heap.size → w5.cell? ⟨ab, f, none⟩ = some (.slice (al f).d (al f).n (al f).c) ∧ w5.frozen? ⟨ab, f, none⟩ = false ∧ Hid (FrS j (j * 16777217) w (w5.setCell ⟨ab, f, none⟩ (.slice D5 ((al f).n + n) c5)) d ab wb W (upd al f ⟨D5, (al f).n + n, c5⟩) (upd a f (a f ++ p)) wv' S)) := (show ∀ w5 D5 c5, _ from fun w5 D5 c5 ho kp bb hs => by
                  have hm := HM.out
                  have hb5 := kp.blk hm.ba (own_ne_blkN (hm.o f hf2).2 hm.ba (by decide))
                  refine ⟨by rw [hb5.cell]; exact two (fun f => (al f).val) hf2, hb5.frozen f, (show FrS _ _ _ _ _ _ _ _ _ _ _ _ from hm.app hf2 (p := p) (by rw [(hm.o f hf2).1, HPn.out]) (by rw [List.map_append]; exact ho) kp bb hs)⟩)
                generalize hgd : (al f).d = ad at c1 HO HApp
                generalize hgn : (al f).n = an at c1 HO HApp hb63
                generalize hgc : (al f).c = ac at c1 HO HApp
                obtain ⟨hi, hz0, hz1, hz2⟩ := HI.out
                clear hgd hgn hgc hao hal hlen HM HFW HR
                go_wp2_with (at_builtin; refine wpList_append_ownK (o := ⟨some 75, _, _, _, _, _⟩) rfl (.tmp 73) (.tmp 74) 27 27 rfl 5 i0 (.int .u8 0) 1 1 Try.underlying27 hi hz0 hz1 hz2 rfl w.heap.size ad an ac ((a f).map B8) rfl HO.out (.slice pA n pc) rfl n (p.map B8) HSR.out (by omega) (by omega) wr (Below.refl _ _) hBq ?_)
                intro w5 D5 c5 HO5 HK5 hb5 hsz5
                obtain ⟨c5a, z5, HM5⟩ := HApp.out w5 D5 c5 HO5.out HK5.out hb5 hsz5
                clear HApp HO HSR HO5 HK5 hb5 hsz5 c1 z1 hBq hb63 hi hz0 hz1 hz2
                go_upto_region 24 with fail
                generalize w5.setCell ⟨ab, f, none⟩ (.slice D5 (an + n) c5) = w6 at *
                clear c5a z5
                have HM6 := Lib.hid (HM5.out.below ((Below.refl _ _).alloc (Nat.le_refl _) (.cells #[.string ⟨#[102]⟩, .string ⟨#[103]⟩] 9)))
                have c6 : (w6.alloc (.cells #[.string ⟨#[102]⟩, .string ⟨#[103]⟩] 9)).cell? ⟨w6.heap.size, f, none⟩ = some (.string (nmF f)) := by
                  rw [(Blk.new w6 9 #[.string ⟨#[102]⟩, .string ⟨#[103]⟩]).cell]
                  have h01 : f = 0 ∨ f = 1 := by omega
                  rcases h01 with rfl | rfl <;> rfl
                have HCa : Hid (Calls Try.prog 34 #[.pointer (some ⟨d, 0, none⟩), .string (nmF f), .slice pA n pc] (w6.alloc (.cells #[.string ⟨#[102]⟩, .string ⟨#[103]⟩] 9)) fun e w' => e = .returned (.int .i64 0) ∧ Hid (∃ S', FrL kk (j + 1) w w' d ab wb (frWt f W p) (upd al f ⟨D5, an + n, c5⟩) (upd a f (a f ++ p)) wv' S')) := (show Calls _ _ _ _ _ from by
                  have hj12 := h12
                  have hpl := HPn.out
                  have hno := HF.out.no hj12 (f := f) (p := p) (by omega)
                  have hwt := HF.out.wt hj12 (f := f) (p := p) (by omega)
                  have hks : (nmF f).size ≤ 9223372036854775807 := by unfold nmF; split <;> decide
                  have hNj : (j + 1) * 16777217 = j * 16777217 + 16777217 := by omega
                  refine (dappendW HM6.out.h (nmF f) pA n pc p hno hwt HPn.out HSP.out HM6.out.bb hks rfl hNj (by omega) (by omega)).mono ?_
                  rintro e w' ⟨rfl, S', r1, r2, r3⟩
                  exact ⟨rfl, (show ∃ S', _ from ⟨S', HF.out.next hj12 HFE.out (by omega) ((HM6.out.call r1 r2 r3).2 rfl) HEnd.out.2⟩)⟩)
                have HLn := Lib.hid (show Wc.length = (frWt f W p).length from by rw [HEnd.out.1])
                generalize nmF f = nf at c6 HCa
                clear HM5 HM6
                go_wp2_with fail
                refine HCa.out.mono ?_
                rintro e w7 ⟨rfl, HX7⟩
                obtain ⟨S7, h7⟩ := HX7.out
                have H7 := Lib.hid h7
                have hln := HLn.out
                clear HCa h7 HX7 c6 HLn
                go_wp2_with fail
                exact ⟨⟨j + 1, _, _, _, _, S7, by omega, by omega, by simp, (by first | rfl | rw [hln]), H7⟩, by simp [intOf]; omega⟩
        · have g1 : ¬ (200 : Int) < (pl : Int) := by omega
          have hn2 : pl ≤ 200 := by omega
          have hnc : pl ≤ pc := hpc
          have HPn := HPL
          have HSP := HPS
          clear hbig hpc HPL HPS
          go_upto_region 14 with fail
          clear g1 q0
          generalize pl = n at *
          generalize pb = p at *
          obtain ⟨Wc0, hWc0, hFW0⟩ := HF.out.begin HFE.out p
          have HW0 := Lib.hid hWc0
          have HFW0 := Lib.hid hFW0
          clear hWc0 hFW0
          by_cases hj2 : j < 2
          · have j3 : (j : Int) < 2 := by omega
            have hlen0 : Wc0.length = W.length + 1 := by rw [HW0.out, if_pos hj2]
            have hw2 : IntKind.i64.wrap ((W.length : Int) + 1) = (Wc0.length : Int) := by rw [IntKind.wrap_i64, hlen0]; omega
            have hwc : Wc0.length ≤ 300000001 := by omega
            clear hlen0 hj2 hraw HW0
            go_upto_block 2 with fail
            go_wp2_with fail
            go_loopw [7, 13] (fun s7 s13 wq => ∃ (at_ : Nat) (Wc : List MW) (r : List UInt8) (wv' : Nat → Nat), s13 = .int .i64 at_ ∧ s7 = .int .i64 (Wc.length : Int) ∧ at_ ≤ n + 31 ∧ Wc.length ≤ 300000001 + at_ ∧ Hid (r.length = n - at_) ∧ Hid (FrS j (j * 16777217) w wq d ab wb W al a wv' S) ∧ Hid (FrW kk f (frWt f W p) Wc a p r wv')) (fun _ s13 _ => n - (intOf s13).toNat)
            case atStart => exact ⟨0, Wc0, p, wv, rfl, by simp, by omega, by omega, (show _ = _ from by rw [HPn.out]; rfl), HF.out.m, HFW0⟩
            case round =>
              obtain ⟨at_, Wc, r, wv', rfl, rfl, hat, hwcl, HR, HM, HFW⟩ := hrel
              clear HFW0 hwc
              by_cases hlt2 : at_ < n
              · have k0 : (at_ : Int) < (n : Int) := by omega
                have hw3 : IntKind.i64.wrap ((Wc.length : Int) + 1) = (Wc.length : Int) + 1 := by rw [IntKind.wrap_i64]; omega
                have hw4 : IntKind.i64.wrap ((at_ : Int) + 32) = (at_ : Int) + 32 := by rw [IntKind.wrap_i64]; omega
                have HNW : Hid (FrW kk f (frWt f W p) (Wc ++ [groX (nmF f) (r.take 32)]) a p (r.drop 32) (if Wc.length + 1 ≤ kk then upd wv' f ((a f).length + min (at_ + 32) n) else wv')) := (show FrW _ _ _ _ _ _ _ _ from by
                  have hr := HR.out
                  have hp := HPn.out
                  have h := HFW.out.step hf2 (by omega) (by omega)
                  have e1 : p.length - r.length = at_ := by omega
                  rw [e1, hp] at h
                  exact h)
                have HRL : Hid ((r.drop 32).length = n - (at_ + 32)) := (show _ = _ from by rw [List.length_drop, HR.out]; omega)
                have hwl2 : (Wc ++ [groX (nmF f) (r.take 32)]).length = Wc.length + 1 := by simp
                by_cases hkk : Wc.length + 1 ≤ kk
                · have k1 : (Wc.length : Int) + 1 ≤ (kk : Int) := by omega
                  rw [if_pos hkk] at HNW
                  obtain ⟨c1, z1⟩ := HM.out.slice hf2
                  obtain ⟨c2, z2⟩ := HM.out.num hf2
                  have hal : (al f).n = (a f).length := (HM.out.o f hf2).1
                  have hmin : min ((at_ : Int) + 32) (n : Int) = ((min (at_ + 32) n : Nat) : Int) := by omega
                  have hlen := HF.out.len f hf2
                  obtain ⟨mm, hmm⟩ : ∃ mm, mm = min (at_ + 32) n := ⟨_, rfl⟩
                  rw [← hmm] at hmin HNW
                  have hmn : mm ≤ n := by omega
                  have hw5 : IntKind.i64.wrap (((al f).n : Int) + (mm : Int)) = (((a f).length + mm : Nat) : Int) := by rw [IntKind.wrap_i64, hal]; omega
                  have HM2 := Lib.hid (HM.out.setN hf2 ((a f).length + mm))
                  generalize (al f).d = ad at c1
                  generalize (al f).n = an at c1 hw5
                  generalize (al f).c = ac at c1
                  clear hal hlen hmm HM HFW HR hkk
                  go_wp2_with fail
                  exact ⟨⟨at_ + 32, _, r.drop 32, _, by simp, by rw [hwl2]; simp, by omega, by omega, HRL, HM2, HNW⟩, by simp [intOf]; omega⟩
                · have k1 : ¬ (Wc.length : Int) + 1 ≤ (kk : Int) := by omega
                  rw [if_neg hkk] at HNW
                  clear HFW HR hkk
                  go_wp2_with fail
                  exact ⟨⟨at_ + 32, _, r.drop 32, _, by simp, by rw [hwl2]; simp, by omega, by omega, HRL, HM, HNW⟩, by simp [intOf]; omega⟩
              · have k0 : ¬ (at_ : Int) < (n : Int) := by omega
                have HEnd : Hid (Wc = frWt f W p ∧ Frt kk (frWt f W p) (upd a f (a f ++ p)) wv') := (show _ ∧ _ from by
                  have hr0 : r = [] := List.eq_nil_of_length_eq_zero (by rw [HR.out]; omega)
                  subst hr0
                  have he := HFW.out.e
                  rw [pieces_nil, List.map_nil, List.append_nil] at he
                  have ht := HFW.out.t
                  simp only [List.length_nil, Nat.sub_zero, List.take_length] at ht
                  rw [he] at ht
                  exact ⟨he, ht⟩)
                obtain ⟨c1, z1⟩ := HM.out.slice hf2
                obtain ⟨hal, hao⟩ := HM.out.o f hf2
                have hlen := HF.out.len f hf2
                have HO := Lib.hid hao
                have HSR := Lib.hid (srcSl (tx := 27) (n := n) (c := pc) Try.underlying27 (by rw [List.length_map]; exact HPn.out) (HSP.out.below HM.out.bb) (bytes_one p))
                have hBq : w.heap.size ≤ wr.heap.size := HM.out.bb.size
                have hb63 : (al f).n + n ≤ 100000 := by omega
                have HApp : Hid (∀ w5 D5 c5, OwnB w5 w.heap.size 5 1 D5 ((al f).n + n) c5 ((a f).map B8 ++ p.map B8) → Kept wr w5 (al f).d D5 → Below w.heap.size wr w5 → wr.heap.size ≤ w5.heap.size → w5.cell? ⟨ab, f, none⟩ = some (.slice (al f).d (al f).n (al f).c) ∧ w5.frozen? ⟨ab, f, none⟩ = false ∧ Hid (FrS j (j * 16777217) w (w5.setCell ⟨ab, f, none⟩ (.slice D5 ((al f).n + n) c5)) d ab wb W (upd al f ⟨D5, (al f).n + n, c5⟩) (upd a f (a f ++ p)) wv' S)) := (show ∀ w5 D5 c5, _ from fun w5 D5 c5 ho kp bb hs => by
                  have hm := HM.out
                  have hb5 := kp.blk hm.ba (own_ne_blkN (hm.o f hf2).2 hm.ba (by decide))
                  refine ⟨by rw [hb5.cell]; exact two (fun f => (al f).val) hf2, hb5.frozen f, (show FrS _ _ _ _ _ _ _ _ _ _ _ _ from hm.app hf2 (p := p) (by rw [(hm.o f hf2).1, HPn.out]) (by rw [List.map_append]; exact ho) kp bb hs)⟩)
                generalize hgd : (al f).d = ad at c1 HO HApp
                generalize hgn : (al f).n = an at c1 HO HApp hb63
                generalize hgc : (al f).c = ac at c1 HO HApp
                obtain ⟨hi, hz0, hz1, hz2⟩ := HI.out
                clear hgd hgn hgc hao hal hlen HM HFW HR
                go_wp2_with (at_builtin; refine wpList_append_ownK (o := ⟨some 75, _, _, _, _, _⟩) rfl (.tmp 73) (.tmp 74) 27 27 rfl 5 i0 (.int .u8 0) 1 1 Try.underlying27 hi hz0 hz1 hz2 rfl w.heap.size ad an ac ((a f).map B8) rfl HO.out (.slice pA n pc) rfl n (p.map B8) HSR.out (by omega) (by omega) wr (Below.refl _ _) hBq ?_)
                intro w5 D5 c5 HO5 HK5 hb5 hsz5
                obtain ⟨c5a, z5, HM5⟩ := HApp.out w5 D5 c5 HO5.out HK5.out hb5 hsz5
                clear HApp HO HSR HO5 HK5 hb5 hsz5 c1 z1 hBq hb63 hi hz0 hz1 hz2
                go_upto_region 24 with fail
                generalize w5.setCell ⟨ab, f, none⟩ (.slice D5 (an + n) c5) = w6 at *
                clear c5a z5
                have HM6 := Lib.hid (HM5.out.below ((Below.refl _ _).alloc (Nat.le_refl _) (.cells #[.string ⟨#[102]⟩, .string ⟨#[103]⟩] 9)))
                have c6 : (w6.alloc (.cells #[.string ⟨#[102]⟩, .string ⟨#[103]⟩] 9)).cell? ⟨w6.heap.size, f, none⟩ = some (.string (nmF f)) := by
                  rw [(Blk.new w6 9 #[.string ⟨#[102]⟩, .string ⟨#[103]⟩]).cell]
                  have h01 : f = 0 ∨ f = 1 := by omega
                  rcases h01 with rfl | rfl <;> rfl
                have HCa : Hid (Calls Try.prog 34 #[.pointer (some ⟨d, 0, none⟩), .string (nmF f), .slice pA n pc] (w6.alloc (.cells #[.string ⟨#[102]⟩, .string ⟨#[103]⟩] 9)) fun e w' => e = .returned (.int .i64 0) ∧ Hid (∃ S', FrL kk (j + 1) w w' d ab wb (frWt f W p) (upd al f ⟨D5, an + n, c5⟩) (upd a f (a f ++ p)) wv' S')) := (show Calls _ _ _ _ _ from by
                  have hj12 := h12
                  have hpl := HPn.out
                  have hno := HF.out.no hj12 (f := f) (p := p) (by omega)
                  have hwt := HF.out.wt hj12 (f := f) (p := p) (by omega)
                  have hks : (nmF f).size ≤ 9223372036854775807 := by unfold nmF; split <;> decide
                  have hNj : (j + 1) * 16777217 = j * 16777217 + 16777217 := by omega
                  refine (dappendW HM6.out.h (nmF f) pA n pc p hno hwt HPn.out HSP.out HM6.out.bb hks rfl hNj (by omega) (by omega)).mono ?_
                  rintro e w' ⟨rfl, S', r1, r2, r3⟩
                  exact ⟨rfl, (show ∃ S', _ from ⟨S', HF.out.next hj12 HFE.out (by omega) ((HM6.out.call r1 r2 r3).2 rfl) HEnd.out.2⟩)⟩)
                have HLn := Lib.hid (show Wc.length = (frWt f W p).length from by rw [HEnd.out.1])
                generalize nmF f = nf at c6 HCa
                clear HM5 HM6
                go_wp2_with fail
                refine HCa.out.mono ?_
                rintro e w7 ⟨rfl, HX7⟩
                obtain ⟨S7, h7⟩ := HX7.out
                have H7 := Lib.hid h7
                have hln := HLn.out
                clear HCa h7 HX7 c6 HLn
                go_wp2_with fail
                exact ⟨⟨j + 1, _, _, _, _, S7, by omega, by omega, by simp, (by first | rfl | rw [hln]), H7⟩, by simp [intOf]; omega⟩
          · have j3 : ¬ (j : Int) < 2 := by omega
            have hlen0 : W.length = Wc0.length := by rw [HW0.out, if_neg hj2]
            have hwc : Wc0.length ≤ 300000001 := by omega
            clear hj2 hraw HW0
            go_upto_block 2 with fail
            rw [hlen0]
            clear hlen0
            go_wp2_with fail
            go_loopw [7, 13] (fun s7 s13 wq => ∃ (at_ : Nat) (Wc : List MW) (r : List UInt8) (wv' : Nat → Nat), s13 = .int .i64 at_ ∧ s7 = .int .i64 (Wc.length : Int) ∧ at_ ≤ n + 31 ∧ Wc.length ≤ 300000001 + at_ ∧ Hid (r.length = n - at_) ∧ Hid (FrS j (j * 16777217) w wq d ab wb W al a wv' S) ∧ Hid (FrW kk f (frWt f W p) Wc a p r wv')) (fun _ s13 _ => n - (intOf s13).toNat)
            case atStart => exact ⟨0, Wc0, p, wv, rfl, by simp, by omega, by omega, (show _ = _ from by rw [HPn.out]; rfl), HF.out.m, HFW0⟩
            case round =>
              obtain ⟨at_, Wc, r, wv', rfl, rfl, hat, hwcl, HR, HM, HFW⟩ := hrel
              clear HFW0 hwc
              by_cases hlt2 : at_ < n
              · have k0 : (at_ : Int) < (n : Int) := by omega
                have hw3 : IntKind.i64.wrap ((Wc.length : Int) + 1) = (Wc.length : Int) + 1 := by rw [IntKind.wrap_i64]; omega
                have hw4 : IntKind.i64.wrap ((at_ : Int) + 32) = (at_ : Int) + 32 := by rw [IntKind.wrap_i64]; omega
                have HNW : Hid (FrW kk f (frWt f W p) (Wc ++ [groX (nmF f) (r.take 32)]) a p (r.drop 32) (if Wc.length + 1 ≤ kk then upd wv' f ((a f).length + min (at_ + 32) n) else wv')) := (show FrW _ _ _ _ _ _ _ _ from by
                  have hr := HR.out
                  have hp := HPn.out
                  have h := HFW.out.step hf2 (by omega) (by omega)
                  have e1 : p.length - r.length = at_ := by omega
                  rw [e1, hp] at h
                  exact h)
                have HRL : Hid ((r.drop 32).length = n - (at_ + 32)) := (show _ = _ from by rw [List.length_drop, HR.out]; omega)
                have hwl2 : (Wc ++ [groX (nmF f) (r.take 32)]).length = Wc.length + 1 := by simp
                by_cases hkk : Wc.length + 1 ≤ kk
                · have k1 : (Wc.length : Int) + 1 ≤ (kk : Int) := by omega
                  rw [if_pos hkk] at HNW
                  obtain ⟨c1, z1⟩ := HM.out.slice hf2
                  obtain ⟨c2, z2⟩ := HM.out.num hf2
                  have hal : (al f).n = (a f).length := (HM.out.o f hf2).1
                  have hmin : min ((at_ : Int) + 32) (n : Int) = ((min (at_ + 32) n : Nat) : Int) := by omega
                  have hlen := HF.out.len f hf2
                  obtain ⟨mm, hmm⟩ : ∃ mm, mm = min (at_ + 32) n := ⟨_, rfl⟩
                  rw [← hmm] at hmin HNW
                  have hmn : mm ≤ n := by omega
                  have hw5 : IntKind.i64.wrap (((al f).n : Int) + (mm : Int)) = (((a f).length + mm : Nat) : Int) := by rw [IntKind.wrap_i64, hal]; omega
                  have HM2 := Lib.hid (HM.out.setN hf2 ((a f).length + mm))
                  generalize (al f).d = ad at c1
                  generalize (al f).n = an at c1 hw5
                  generalize (al f).c = ac at c1
                  clear hal hlen hmm HM HFW HR hkk
                  go_wp2_with fail
                  exact ⟨⟨at_ + 32, _, r.drop 32, _, by simp, by rw [hwl2]; simp, by omega, by omega, HRL, HM2, HNW⟩, by simp [intOf]; omega⟩
                · have k1 : ¬ (Wc.length : Int) + 1 ≤ (kk : Int) := by omega
                  rw [if_neg hkk] at HNW
                  clear HFW HR hkk
                  go_wp2_with fail
                  exact ⟨⟨at_ + 32, _, r.drop 32, _, by simp, by rw [hwl2]; simp, by omega, by omega, HRL, HM, HNW⟩, by simp [intOf]; omega⟩
              · have k0 : ¬ (at_ : Int) < (n : Int) := by omega
                have HEnd : Hid (Wc = frWt f W p ∧ Frt kk (frWt f W p) (upd a f (a f ++ p)) wv') := (show _ ∧ _ from by
                  have hr0 : r = [] := List.eq_nil_of_length_eq_zero (by rw [HR.out]; omega)
                  subst hr0
                  have he := HFW.out.e
                  rw [pieces_nil, List.map_nil, List.append_nil] at he
                  have ht := HFW.out.t
                  simp only [List.length_nil, Nat.sub_zero, List.take_length] at ht
                  rw [he] at ht
                  exact ⟨he, ht⟩)
                obtain ⟨c1, z1⟩ := HM.out.slice hf2
                obtain ⟨hal, hao⟩ := HM.out.o f hf2
                have hlen := HF.out.len f hf2
                have HO := Lib.hid hao
                have HSR := Lib.hid (srcSl (tx := 27) (n := n) (c := pc) Try.underlying27 (by rw [List.length_map]; exact HPn.out) (HSP.out.below HM.out.bb) (bytes_one p))
                have hBq : w.heap.size ≤ wr.heap.size := HM.out.bb.size
                have hb63 : (al f).n + n ≤ 100000 := by omega
                have HApp : Hid (∀ w5 D5 c5, OwnB w5 w.heap.size 5 1 D5 ((al f).n + n) c5 ((a f).map B8 ++ p.map B8) → Kept wr w5 (al f).d D5 → Below w.heap.size wr w5 → wr.heap.size ≤ w5.heap.size → w5.cell? ⟨ab, f, none⟩ = some (.slice (al f).d (al f).n (al f).c) ∧ w5.frozen? ⟨ab, f, none⟩ = false ∧ Hid (FrS j (j * 16777217) w (w5.setCell ⟨ab, f, none⟩ (.slice D5 ((al f).n + n) c5)) d ab wb W (upd al f ⟨D5, (al f).n + n, c5⟩) (upd a f (a f ++ p)) wv' S)) := (show ∀ w5 D5 c5, _ from fun w5 D5 c5 ho kp bb hs => by
                  have hm := HM.out
                  have hb5 := kp.blk hm.ba (own_ne_blkN (hm.o f hf2).2 hm.ba (by decide))
                  refine ⟨by rw [hb5.cell]; exact two (fun f => (al f).val) hf2, hb5.frozen f, (show FrS _ _ _ _ _ _ _ _ _ _ _ _ from hm.app hf2 (p := p) (by rw [(hm.o f hf2).1, HPn.out]) (by rw [List.map_append]; exact ho) kp bb hs)⟩)
                generalize hgd : (al f).d = ad at c1 HO HApp
                generalize hgn : (al f).n = an at c1 HO HApp hb63
                generalize hgc : (al f).c = ac at c1 HO HApp
                obtain ⟨hi, hz0, hz1, hz2⟩ := HI.out
                clear hgd hgn hgc hao hal hlen HM HFW HR
                go_wp2_with (at_builtin; refine wpList_append_ownK (o := ⟨some 75, _, _, _, _, _⟩) rfl (.tmp 73) (.tmp 74) 27 27 rfl 5 i0 (.int .u8 0) 1 1 Try.underlying27 hi hz0 hz1 hz2 rfl w.heap.size ad an ac ((a f).map B8) rfl HO.out (.slice pA n pc) rfl n (p.map B8) HSR.out (by omega) (by omega) wr (Below.refl _ _) hBq ?_)
                intro w5 D5 c5 HO5 HK5 hb5 hsz5
                obtain ⟨c5a, z5, HM5⟩ := HApp.out w5 D5 c5 HO5.out HK5.out hb5 hsz5
                clear HApp HO HSR HO5 HK5 hb5 hsz5 c1 z1 hBq hb63 hi hz0 hz1 hz2
                go_upto_region 24 with fail
                generalize w5.setCell ⟨ab, f, none⟩ (.slice D5 (an + n) c5) = w6 at *
                clear c5a z5
                have HM6 := Lib.hid (HM5.out.below ((Below.refl _ _).alloc (Nat.le_refl _) (.cells #[.string ⟨#[102]⟩, .string ⟨#[103]⟩] 9)))
                have c6 : (w6.alloc (.cells #[.string ⟨#[102]⟩, .string ⟨#[103]⟩] 9)).cell? ⟨w6.heap.size, f, none⟩ = some (.string (nmF f)) := by
                  rw [(Blk.new w6 9 #[.string ⟨#[102]⟩, .string ⟨#[103]⟩]).cell]
                  have h01 : f = 0 ∨ f = 1 := by omega
                  rcases h01 with rfl | rfl <;> rfl
                have HCa : Hid (Calls Try.prog 34 #[.pointer (some ⟨d, 0, none⟩), .string (nmF f), .slice pA n pc] (w6.alloc (.cells #[.string ⟨#[102]⟩, .string ⟨#[103]⟩] 9)) fun e w' => e = .returned (.int .i64 0) ∧ Hid (∃ S', FrL kk (j + 1) w w' d ab wb (frWt f W p) (upd al f ⟨D5, an + n, c5⟩) (upd a f (a f ++ p)) wv' S')) := (show Calls _ _ _ _ _ from by
                  have hj12 := h12
                  have hpl := HPn.out
                  have hno := HF.out.no hj12 (f := f) (p := p) (by omega)
                  have hwt := HF.out.wt hj12 (f := f) (p := p) (by omega)
                  have hks : (nmF f).size ≤ 9223372036854775807 := by unfold nmF; split <;> decide
                  have hNj : (j + 1) * 16777217 = j * 16777217 + 16777217 := by omega
                  refine (dappendW HM6.out.h (nmF f) pA n pc p hno hwt HPn.out HSP.out HM6.out.bb hks rfl hNj (by omega) (by omega)).mono ?_
                  rintro e w' ⟨rfl, S', r1, r2, r3⟩
                  exact ⟨rfl, (show ∃ S', _ from ⟨S', HF.out.next hj12 HFE.out (by omega) ((HM6.out.call r1 r2 r3).2 rfl) HEnd.out.2⟩)⟩)
                have HLn := Lib.hid (show Wc.length = (frWt f W p).length from by rw [HEnd.out.1])
                generalize nmF f = nf at c6 HCa
                clear HM5 HM6
                go_wp2_with fail
                refine HCa.out.mono ?_
                rintro e w7 ⟨rfl, HX7⟩
                obtain ⟨S7, h7⟩ := HX7.out
                have H7 := Lib.hid h7
                have hln := HLn.out
                clear HCa h7 HX7 c6 HLn
                go_wp2_with fail
                exact ⟨⟨j + 1, _, _, _, _, S7, by omega, by omega, by simp, (by first | rfl | rw [hln]), H7⟩, by simp [intOf]; omega⟩
      · have hout : (¬ (j : Int) < (n0 : Int)) ∨ ((j : Int) < (n0 : Int) ∧ ¬ (j : Int) < 12) := by omega
        have HX : Hid (j ≤ 12 ∧ FrL kk j w wr d ab wb W al a wv S) := ⟨hj, HF.out⟩
        clear HF
        rcases hout with h1 | ⟨h1, h2⟩
        all_goals
          go_wp2_with fail
          go_meet
          exact ⟨W, al, a, wv, S, j, by simp, HX⟩
  case rest =>
    obtain ⟨w3, hnm⟩ : ∃ W, W = wc := ⟨_, rfl⟩
    subst hnm
    clear HF0
    obtain ⟨W, al, a, wv, S, j, rfl, HX⟩ := hcut
    have hj := HX.out.1
    have HF := Lib.hid HX.out.2
    clear HX
    go_wp2_with fail
    refine (dcountV HF.out.m.h rfl).mono ?_
    rintro e w4 ⟨rfl, rfl⟩
    have HBk : Hid (Calls Try.prog 37 #[.pointer (some ⟨d, 0, none⟩), .int .i64 (kk : Int)] w4 fun e w' => e = .returned (.tuple #[]) ∧ Hid (∃ S', FrT j 0 w w' d ab wb (replay [] (W.take kk)) [] al a wv S')) := (show Calls _ _ _ _ _ from by
      have hb : replay [] (W.take (backN (kk : Int) W.length)) = replay [] (W.take kk) := by
        have h1 : backN (kk : Int) W.length = min kk W.length := by unfold backN; omega
        rw [h1]
        congr 1
        rw [List.take_eq_take_iff]; omega
      refine (dbackV HF.out.m.h (kk : Int) hb (by omega) (by omega)).mono ?_
      rintro e w' ⟨rfl, S', r1, r2, r3⟩
      exact ⟨rfl, (show ∃ S', _ from ⟨S', (HF.out.m.call r1 r2 r3).1⟩)⟩)
    have HTT := Lib.hid HF.out.t
    have HLL := Lib.hid HF.out.len
    clear HF
    go_wp2_with fail
    refine HBk.out.mono ?_
    rintro e w5 ⟨rfl, HX5⟩
    obtain ⟨S5, h5⟩ := HX5.out
    have HT5 := Lib.hid h5
    clear h5 HX5 HBk
    go_wp2_with fail
    go_loopw [14] (fun s14 wr => ∃ (f : Nat), f ≤ 2 ∧ s14 = .int .i64 f ∧ Hid (FrT j 0 w wr d ab wb (replay [] (W.take kk)) [] al a wv S5)) (fun s14 _ => 2 - (intOf s14).toNat)
    case atStart => exact ⟨0, by decide, rfl, HT5⟩
    case round =>
      obtain ⟨f, hf, rfl, HT⟩ := hrel
      clear HT5
      by_cases hf2 : f < 2
      · have f0 : (0 : Int) ≤ (f : Int) := by omega
        have f1 : (f : Int) < 2 := by omega
        have hw1 : IntKind.i64.wrap ((f : Int) + 1) = (f : Int) + 1 := by rw [IntKind.wrap_i64]; omega
        have HTA := Lib.hid (HT.out.below ((Below.refl _ _).alloc (Nat.le_refl _) (.cells #[.string ⟨#[102]⟩, .string ⟨#[103]⟩] 9)))
        have c6 : (wr.alloc (.cells #[.string ⟨#[102]⟩, .string ⟨#[103]⟩] 9)).cell? ⟨wr.heap.size, f, none⟩ = some (.string (nmF f)) := by
          rw [(Blk.new wr 9 #[.string ⟨#[102]⟩, .string ⟨#[103]⟩]).cell]
          have h01 : f = 0 ∨ f = 1 := by omega
          rcases h01 with rfl | rfl <;> rfl
        obtain ⟨hp1, hp2⟩ := HTT.out.p f hf2
        have hlen := HLL.out f hf2
        obtain ⟨v, hv⟩ : ∃ v, v = wv f := ⟨_, rfl⟩
        have hvl : ((a f).take (wv f)).length = v := by rw [List.length_take, hv]; omega
        have HRd := Lib.hid (dreadV HTA.out.h (by omega) (nmF f) (bs := (a f).take (wv f)) (n := v) hp2 hvl rfl)
        have HVL := Lib.hid hvl
        have HV := Lib.hid hv
        have hvb : v ≤ 10000 := by omega
        clear hp1 hp2 hlen hvl hv HT
        go_upto_region 32 with fail
        generalize nmF f = nf at c6 HRd
        generalize (getF nf (replay (replay [] (W.take kk)) [])).isSome = bb at HRd
        go_wp2_with fail
        refine HRd.out.mono ?_
        rintro e w6 ⟨D6, c6', rfl, o6, h6, b6⟩
        have HT6 := Lib.hid (HTA.out.below b6)
        have hb1 := HT6.out.ba.cell f
        rw [two (fun f => (al f).val) hf2] at hb1
        have hb2 := HT6.out.bw.cell f
        rw [two (fun f => Value.int .i64 (wv f : Int)) hf2, ← HV.out] at hb2
        obtain ⟨hal, hao⟩ := HT6.out.o f hf2
        have hcap : v ≤ (al f).c := by
          have h1 := hao.2.1
          have h2 := (HTT.out.p f hf2).1
          rw [HV.out]; omega
        have HSm := Lib.hid (fun q => sameB_calls D6 (al f).d v v c6' (al f).c ((a f).take (wv f)) ((a f).take (wv f)) (w6.drewN q) HVL.out HVL.out (by omega) (by omega) (o6.drewN q).sl (by rw [List.map_take]; exact (hao.drewN q).sl.take (wv f)))
        rw [eqL_self] at HSm
        unfold Sb.val at hb1
        generalize (al f).d = ad at hb1 HSm
        generalize (al f).n = an at hb1
        generalize (al f).c = ac at hb1 HSm hcap
        have v0 : (0 : Int) ≤ (v : Int) := by omega
        have v1 : (v : Int) ≤ (ac : Int) := by omega
        clear HRd o6 h6 b6 c6 hal hao HTA hvb HVL HV hcap
        go_upto_region 33 with fail
        go_quiet ((exact Calls.quiet_of (HSm.out _)))
        have HT7 := Lib.hid (HT6.out.below (below_drewN (Below.refl _ _) nq))
        clear HSm HT6 hb1 hb2
        go_wp2_with fail
        exact ⟨⟨f + 1, by omega, by simp, HT7⟩, by simp [intOf]; omega⟩
      · obtain rfl : f = 2 := by omega
        have HB := Lib.hid HT.out.bb
        clear HT
        go_wp2_with fail
        refine (diskRuns_calls wr).mono ?_
        rintro e w7 ⟨rfl, b7⟩
        go_wp2_with fail
        go_ret
        exact ⟨rfl, HB.out.trans (b7.mono HB.out.size)⟩

end Go.Proofs.Ytbmgeomndfodpaa
