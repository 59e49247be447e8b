/-
  The contract of disk's Back.
-/
import Derived.Test.YtbmgeomndfodpaaDiskMark
namespace Go.Proofs.Ytbmgeomndfodpaa
open Go.RowKit Go.Mem Go.Proofs

/-- how many raw writes Back(n) applies -/
def backN (n : Int) (len : Nat) : Nat := (max 0 (min n (len : Int))).toNat
theorem backN_le (n : Int) (len : Nat) : backN n len ≤ len ∧ max 0 (min n (len : Int)) = (backN n len : Int) := by
  unfold backN
  omega
/-- the files of the mark, beside what was -/
theorem DD.reset {w w1 : World} {B d : Nat} {M F : FS} {l : List (MW × Sb)} {pF pM p' : Nat} {KF VF KM VM WD D V : Option Addr} {cW : Nat} {vF vM : List Sb} (h : DD w B d M F l pF pM KF VF KM VM WD cW vF vM) (b1 : Below w.heap.size w w1) (tb : TbSL w1 w.heap.size p' D V (M.map Prod.fst) vM) (hB : B ≤ w.heap.size) :
    DD (w1.setCell ⟨d, 0, none⟩ (.pointer (some ⟨p', 0, none⟩))) B d M M l p' pM D V KM VM WD cW vM vM ∧ Fp w (w1.setCell ⟨d, 0, none⟩ (.pointer (some ⟨p', 0, none⟩))) (FootD d pF pM KF VF KM VM WD vF vM l) (FootD d p' pM D V KM VM WD vM vM l) ∧ Below B w (w1.setCell ⟨d, 0, none⟩ (.pointer (some ⟨p', 0, none⟩))) := by
  have h1 := h.below b1
  have hb1 := h1.b
  have hk : ∀ g, g ≠ d → (w1.setCell ⟨d, 0, none⟩ (.pointer (some ⟨p', 0, none⟩))).heap[g]? = w1.heap[g]? := fun g hne => Below.heap_setCell _ ⟨d, 0, none⟩ _ g hne
  have hb2 := hb1.set_ 0 (.pointer (some ⟨p', 0, none⟩))
  simp only [List.set_cons_zero] at hb2
  have hp' : w.heap.size ≤ p' := by obtain ⟨a, b, q1, q2⟩ := tb; exact q1.pB
  have hD : ∀ g, D = some ⟨g, 0, none⟩ → w.heap.size ≤ g := fun g hg => by obtain ⟨a, b, q1, q2⟩ := tb; exact (own_lt q1.k hg).2
  have hV : ∀ g, V = some ⟨g, 0, none⟩ → w.heap.size ≤ g := fun g hg => by obtain ⟨a, b, q1, q2⟩ := tb; exact (own_lt q1.v hg).2
  refine ⟨⟨hb2, h.dB, (h.m.copied b1 tb hB).setD hb1 0 _, h1.m.setD hb1 0 _, own_keepN h1.ws (fun g hg => hk g (fun e => own_ne_blkN h1.ws hb1 (by decide) (by rw [hg, e]))), fun x hx => (h1.wd x hx).keep fun g o sp e => ?_, h.m.self, fun x hx s hs => h.wf x hx s (.inr (by rcases hs with hs | hs <;> exact hs)), ?_, fun g hg e => ?_, fun g hg e => ?_⟩, ⟨by simpa [World.setCell] using b1.size, fun g hg hn => ?_, fun g hg hs => ?_⟩, (b1.mono hB).setCell (p := ⟨d, 0, none⟩) h.dB _⟩
  · obtain ⟨_, cs, hb⟩ := (h1.wd x hx).b g o sp e
    exact hk g (hb.ne_ hb1 (by decide))
  · have := h.m.lt.1; omega
  · have := hD g hg; have := (h.m.ltK e).1; omega
  · have := hV g hg; have := (h.m.ltV e).1; omega
  · exact (hk g (fun e => hn (.inl e))).trans (b1.block g hg)
  · rcases hs with e | e | e | e | e | e | e | e | ⟨s, hs, e⟩ | e
    · exact .inl e
    · omega
    · exact .inr (.inr (.inl e))
    · have := hD g e; omega
    · have := hV g e; omega
    · exact .inr (.inr (.inr (.inr (.inr (.inl e)))))
    · exact .inr (.inr (.inr (.inr (.inr (.inr (.inl e))))))
    · exact .inr (.inr (.inr (.inr (.inr (.inr (.inr (.inl e)))))))
    · exact .inr (.inr (.inr (.inr (.inr (.inr (.inr (.inr (.inl ⟨s, .inr (by rcases hs with hs | hs <;> exact hs), e⟩))))))))
    · exact .inr (.inr (.inr (.inr (.inr (.inr (.inr (.inr (.inr e))))))))
/-- a state on the way of Back: k writes are applied -/
def BkS (w0 w : World) (B d : Nat) (M : FS) (l : List (MW × Sb)) (k : Nat) (S : Nat → Prop) (pM : Nat) (KM VM WD : Option Addr) (cW : Nat) (vM : List Sb) : Prop := ∃ pF KF VF vF, DD w B d M (replay M ((l.map Prod.fst).take k)) l pF pM KF VF KM VM WD cW vF vM ∧ Fp w0 w S (FootD d pF pM KF VF KM VM WD vF vM l) ∧ Below B w0 w
set_option maxRecDepth 100000 in
set_option maxHeartbeats 3200000 in
theorem back_calls {w : World} {B d K N : Nat} {M : FS} {W : List MW} {S : Nat → Prop} (h : DV K N w B d M W S) (n : Int) (hK : K ≤ 90000) (hN : N ≤ 100000000000) : Calls Try.prog 37 #[.pointer (some ⟨d, 0, none⟩), .int .i64 n] w (DE K 0 w B d (.tuple #[]) (replay M (W.take (backN n W.length))) [] S) := by
  obtain ⟨⟨l, pF, pM, KF, VF, KM, VM, WD, cW, vF, vM, he, dd, rfl⟩, hg, hB⟩ := h
  have hM : M.length ≤ 90000 := by have := hg.fl 0; simp [replay] at this; omega
  have hlW : W.length = l.length := by rw [← he, List.length_map]
  rw [hlW]
  have hln : l.length ≤ 100000000000 := by have := hg.n; omega
  obtain ⟨hm1, hm2⟩ := backN_le n l.length
  generalize backN n l.length = m at *
  have c1 := dd.b.cell 1
  simp only [List.getElem?_cons_zero, List.getElem?_cons_succ] at c1
  have HC : Hid (Calls Try.prog 71 #[.pointer (some ⟨pM, 0, none⟩)] w fun e w1 => ∃ p', e = .returned (.pointer (some ⟨p', 0, none⟩)) ∧ Hid (w1.cell? ⟨d, 0, none⟩ = some (.pointer (some ⟨pF, 0, none⟩)) ∧ w1.frozen? ⟨d, 0, none⟩ = false) ∧ Hid (BkS w (w1.setCell ⟨d, 0, none⟩ (.pointer (some ⟨p', 0, none⟩))) B d M l 0 (FootD d pF pM KF VF KM VM WD vF vM l) pM KM VM WD cW vM)) := (show Calls _ _ _ _ _ from by
    refine (copySL_calls B pM KM VM _ vM w dd.m.tb (by rw [List.length_map]; omega)).mono ?_
    rintro e w1 ⟨p', D, V, rfl, tb, b1⟩
    have hb1 := (dd.below b1).b
    obtain ⟨r1, r2, r3⟩ := dd.reset b1 tb hB
    exact ⟨p', rfl, ⟨hb1.cell 0, hb1.frozen 0⟩, (show BkS _ _ _ _ _ _ _ _ _ _ _ _ _ _ from ⟨p', D, V, vM, r1, r2, r3⟩)⟩)
  have HG := Lib.hid hg
  have HE := Lib.hid he
  generalize FootD d pF pM KF VF KM VM WD vF vM l = S at *
  clear dd hg he
  go_enter Try.func37, Try.ntmps37
  go_wp2_with fail
  refine HC.out.mono ?_
  rintro e w1 ⟨p', rfl, HD1, HB1⟩
  obtain ⟨d0, z0⟩ := HD1.out
  clear c1 HC HD1
  go_upto_region 1 with fail
  generalize w1.setCell ⟨d, 0, none⟩ (.pointer (some ⟨p', 0, none⟩)) = w2 at *
  clear d0 z0
  have c2 : w2.cell? ⟨d, 2, none⟩ = some (.slice WD l.length cW) := by
    obtain ⟨_, _, _, _, d2, _⟩ := HB1.out
    exact d2.b.cell 2
  have hcw : l.length ≤ cW := by
    obtain ⟨_, _, _, _, d2, _⟩ := HB1.out
    exact d2.ws.le
  have i0 : (0 : Int) ≤ (m : Int) := by omega
  have i1 : (m : Int) ≤ (cW : Int) := by omega
  go_quiet (fail)
  have HB3 : Hid (BkS w (w2.drewN nq) B d M l 0 S pM KM VM WD cW vM) := (show BkS _ _ _ _ _ _ _ _ _ _ _ _ _ _ from by
    obtain ⟨pF', KF', VF', vF', d2, fp, bb⟩ := HB1.out
    exact ⟨pF', KF', VF', vF', d2.below (below_drewN (Below.refl _ _) nq), fp.trans (Fp.of_below (below_drewN (Below.refl _ _) nq) _), below_drewN bb nq⟩)
  clear HB1 c2
  generalize w2.drewN nq = w3 at *
  go_wp2_with fail
  go_loopw [28] (fun i wr => ∃ (k : Nat), k ≤ m ∧ i = .int .i64 k ∧ Hid (BkS w wr B d M l k S pM KM VM WD cW vM)) (fun i _ => m - (intOf i).toNat)
  case atStart => exact ⟨0, Nat.zero_le _, rfl, HB3⟩
  case round =>
    obtain ⟨k, hk, rfl, HS⟩ := hrel
    by_cases hlt : k < m
    · have j0 : (0 : Int) ≤ (k : Int) := by omega
      have j1 : (k : Int) < (m : Int) := by omega
      have hw1 : IntKind.i64.wrap ((k : Int) + 1) = (k : Int) + 1 := by rw [IntKind.wrap_i64]; omega
      have hkl : k < l.length := by omega
      obtain ⟨pF1, KF1, VF1, vF1, d1, fp1, bb1⟩ := HS.out
      have hlx : l[k]? = some l[k] := List.getElem?_eq_getElem hkl
      have hWx : (l.map Prod.fst)[k]? = some l[k].1 := by rw [List.getElem?_map, hlx]; rfl
      obtain ⟨g, o, hWD, hcell⟩ : ∃ g o, WD = some ⟨g, o, none⟩ ∧ ∀ q v, q < 5 → (l[k].1.cells l[k].2).toList[q]? = some v → wr.cell? ⟨g, o + k * 5 + q, none⟩ = some v := by
        rcases d1.ws.2.2 with ⟨_, h0, _⟩ | ⟨g, sp, hd, _, hb, _⟩
        · omega
        · refine ⟨g, 0, hd, fun q v hq hv => ?_⟩
          rw [Nat.zero_add, hb.cell, List.getElem?_append_left (by rw [flatW_len]; omega)]
          exact (flat_at (F := fun x : MW × Sb => (x.1.cells x.2).toList) (m := 5) (fun _ => rfl) hlx hq).trans hv
      have hok : l[k].1.ok (replay M ((l.map Prod.fst).take k)) := by
        have := HG.out.ok k l[k].1 (by rw [← HE.out]; exact hWx)
        rwa [← HE.out] at this
      have hFl : (replay M ((l.map Prod.fst).take k)).length ≤ K := by
        have := HG.out.fl k
        rwa [← HE.out] at this
      have hDat := d1.wd l[k] (List.mem_of_getElem? hlx)
      have hstep : replay M ((l.map Prod.fst).take (k + 1)) = l[k].1.app (replay M ((l.map Prod.fst).take k)) := by
        rw [List.take_add_one, hWx]
        show replay M ((l.map Prod.fst).take k ++ [l[k].1]) = _
        exact replay_app _ _ _
      have HAp : Hid (∀ W1, Below wr.heap.size wr W1 → Calls Try.prog 72 #[.pointer (some ⟨d, 0, none⟩), .agg (l[k].1.cells l[k].2)] W1 fun e w5 => e = .returned (.tuple #[]) ∧ Hid (BkS w w5 B d M l (k + 1) S pM KM VM WD cW vM)) := (show ∀ W1, _ from fun W1 hW => by
        have d2 := d1.below hW
        have hD2 := d2.wd l[k] (List.mem_of_getElem? hlx)
        have hB2 : B ≤ W1.heap.size := Nat.le_trans hB (Nat.le_trans bb1.size hW.size)
        refine (apply_calls d2.f d2.b l[k].1 l[k].2 hok hD2.n hD2.sl (by omega) hB2).mono fun e w5 he => ?_
        obtain ⟨rfl, KF5, VF5, vF5, d5, fp5, bb5, _⟩ := d2.app he
        exact ⟨rfl, (show BkS _ _ _ _ _ _ _ _ _ _ _ _ _ _ from ⟨pF1, KF5, VF5, vF5, by rw [hstep]; exact d5, (fp1.trans (Fp.of_below hW _)).trans fp5, (bb1.trans (hW.mono (Nat.le_trans hB bb1.size))).trans bb5⟩)⟩)
      clear hstep hFl hok d1 fp1 bb1 hlx hWx HS
      have e0 := hcell 0 _ (by decide) rfl
      have e1 := hcell 1 _ (by decide) rfl
      have e2 := hcell 2 _ (by decide) rfl
      have e3 := hcell 3 _ (by decide) rfl
      have e4 := hcell 4 _ (by decide) rfl
      clear hcell hDat
      generalize l[k] = y at *
      obtain ⟨⟨x0, x1, x2, x3, x4⟩, ⟨s1, s2, s3⟩⟩ := y
      unfold MW.cells wcells at HAp
      simp only [Nat.add_zero] at e0 e1 e2 e3 e4 HAp
      subst hWD
      go_wp2_with fail
      have hbw := (Below.refl wr.heap.size wr).alloc (Nat.le_refl _) (.cells #[.int .i64 x0, .string x1, .string x2, .int .i64 x3, .slice s1 s2 s3] 119)
      refine (HAp.out _ hbw).mono ?_
      rintro e w5 ⟨rfl, HB5⟩
      clear HAp hbw e0 e1 e2 e3 e4
      go_wp2_with fail
      exact ⟨⟨k + 1, hlt, by simp, HB5⟩, by simp [intOf]; omega⟩
    · obtain rfl : k = m := by omega
      have i2 : ¬ ((k : Int) < (k : Int)) := by omega
      have HMk : Hid (Calls Try.prog 41 #[.pointer (some ⟨d, 0, none⟩)] wr fun e w6 => e = .returned (.tuple #[]) ∧ Hid (DE K 0 w B d (.tuple #[]) (replay M (W.take k)) [] S (.returned (.tuple #[])) w6)) := (show Calls _ _ _ _ _ from by
        obtain ⟨pF1, KF1, VF1, vF1, d1, fp1, bb1⟩ := HS.out
        rw [HE.out] at d1
        have hg2 := (HG.out.take k).mark
        have hl2 := (HG.out.fl k)
        have hB2 := Nat.le_trans hB bb1.size
        refine (mark_half d1.b d1.dB d1.f (by omega) hB2).mono fun e w6 hE => ?_
        obtain ⟨rfl, S', r1, r2, r3⟩ := hE.de (pM := pM) (KM := KM) (VM := VM) (WD := WD) (vM := vM) (l := l) hg2 hB2
        exact ⟨rfl, (show DE _ _ _ _ _ _ _ _ _ _ _ from ⟨rfl, S', r1, fp1.trans r2, bb1.trans r3⟩)⟩)
      clear HS HB3
      go_wp2_with fail
      refine HMk.out.mono ?_
      rintro e w6 ⟨rfl, HF⟩
      go_wp2_with fail
      go_end0
      exact HF.out
end Go.Proofs.Ytbmgeomndfodpaa
