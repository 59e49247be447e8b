/-
  The contract of disk's Append.
-/
import Derived.Test.YtbmgeomndfodpaaDiskAppM
namespace Go.Proofs.Ytbmgeomndfodpaa
open Go.RowKit Go.Mem Go.Proofs

/-- on the way of Append: the disk, and the bytes s that are to be written yet, in block gc -/
def AS (w0 w : World) (B d : Nat) (M : FS) (Wc : List MW) (S : Nat → Prop) (gc : Nat) (k : ByteArray) (s : Sb) (r : List UInt8) : Prop := ∃ l pF pM KF VF KM VM WD cW vF vM, l.map Prod.fst = Wc ∧ DD w B d M (replay M Wc) l pF pM KF VF KM VM WD cW vF vM ∧ Fp w0 w S (FootD d pF pM KF VF KM VM WD vF vM l) ∧ Below B w0 w ∧
  (1 ≤ r.length → Dat w B (groX k r) s ∧ (∀ g o sp, s.d = some ⟨g, o, sp⟩ → g = gc) ∧ w0.heap.size ≤ gc ∧ ∀ t, t ∈ vF ∨ t ∈ vM → t.d ≠ some ⟨gc, 0, none⟩)
theorem Sl.fp {w w' : World} {A : Option Addr} {xs : List Value} {S S' : Nat → Prop} (h : Sl w A xs) (fp : Fp w w' S S') (hn : ∀ g o sp, A = some ⟨g, o, sp⟩ → 1 ≤ xs.length → ¬ S g) : Sl w' A xs := fun k v hv => by
  obtain ⟨b, o, e, hc⟩ := h k v hv
  have := (List.getElem?_eq_some_iff.1 hv).1
  exact ⟨b, o, e, (World.cell?_of_block (a := ⟨b, o + k, none⟩) (fp.k b (lt_of_cell hc) (hn b o none e (by omega)))).trans hc⟩
theorem Sl.drop {w : World} {g o : Nat} {xs : List Value} (h : Sl w (some ⟨g, o, none⟩) xs) (m : Nat) : Sl w (some ⟨g, o + m, none⟩) (xs.drop m) := fun j v hv => by
  rw [List.getElem?_drop] at hv
  obtain ⟨b, o', e, hc⟩ := h (m + j) v hv
  injection e with e; injection e with e1 e2
  subst e1; subst e2
  exact ⟨g, o + m, rfl, by rw [Nat.add_assoc]; exact hc⟩
theorem AS.step {w0 w : World} {B d : Nat} {M : FS} {Wc : List MW} {S : Nat → Prop} {gc : Nat} {k : ByteArray} {s : Sb} {r : List UInt8} (h : AS w0 w B d M Wc S gc k s r) (hr : 1 ≤ r.length) (hok : (groX k (r.take 32)).ok (replay M Wc)) (hF : (replay M Wc).length ≤ 90000) (hn : Wc.length ≤ 100000000000) (hB : B ≤ w0.heap.size) :
    Calls Try.prog 70 #[.pointer (some ⟨d, 0, none⟩), .agg ((groX k (r.take 32)).cells ⟨s.d, (r.take 32).length, s.c⟩)] w fun e w' => e = .returned (.tuple #[]) ∧ Hid (∀ s' : Sb, s'.n = (r.drop 32).length → (1 ≤ (r.drop 32).length → ∃ o, s.d = some ⟨gc, o, none⟩ ∧ s'.d = some ⟨gc, o + (r.take 32).length, none⟩) → AS w0 w' B d M (Wc ++ [groX k (r.take 32)]) S gc k s' (r.drop 32)) := by
  obtain ⟨l, pF, pM, KF, VF, KM, VM, WD, cW, vF, vM, he, dd, fp, bb, hD⟩ := h
  obtain ⟨dat, hgc, hnew, hsep⟩ := hD hr
  have hll : l.length = Wc.length := by rw [← he, List.length_map]
  have hDt : Dat w B (groX k (r.take 32)) ⟨s.d, (r.take 32).length, s.c⟩ := ⟨rfl, fun j v hv => dat.sl j v (by
    change ((r.take 32).map B8)[j]? = some v at hv
    have hlt := (List.getElem?_eq_some_iff.1 hv).1
    rw [List.length_map, List.length_take] at hlt
    change (r.map B8)[j]? = some v
    rw [List.map_take, List.getElem?_take_of_lt (by omega)] at hv
    exact hv), dat.b⟩
  refine (do_calls dd (groX k (r.take 32)) ⟨s.d, (r.take 32).length, s.c⟩ hok hDt (fun t ht g o sp e => by rw [hgc g o sp e]; exact hsep t ht) hF (by omega) (Nat.le_trans hB bb.size)).mono fun e w' hE => ?_
  obtain ⟨rfl, KF', VF', WD', cW', vF', d2, fp2, bb2, off, dat2⟩ := hE
  refine ⟨rfl, (show ∀ s', _ from fun s' hs' hd' => ?_)⟩
  have fpx : Fp w0 w' S (FootD d pF pM KF' VF' KM VM WD' vF' vM (l ++ [(groX k (r.take 32), ⟨s.d, (r.take 32).length, s.c⟩)])) := ⟨Nat.le_trans fp.sz fp2.sz, fun g hg hs => by
    refine (fp2.k g (Nat.lt_of_lt_of_le hg fp.sz) (fun e => ?_)).trans (fp.k g hg hs)
    rcases e with e | ⟨o, sp, e⟩
    · exact hs (fp.n g hg e)
    · have := hgc g o sp e; omega, fun g hg hs => by
    rcases fp2.n g (Nat.lt_of_lt_of_le hg fp.sz) hs with e | ⟨o, sp, e⟩
    · exact fp.n g hg e
    · have := hgc g o sp e; omega⟩
  refine ⟨_, pF, pM, KF', VF', KM, VM, WD', cW', vF', vM, by simp [he], by rw [replay_app]; exact d2, fpx, bb.trans bb2, fun hr2 => ?_⟩
  have dr := dat2 _ _ dat (fun t ht g o sp e => by rw [hgc g o sp e]; exact hsep t (.inl ht))
  obtain ⟨o, ho, ho'⟩ := hd' hr2
  have hgw : gc < w.heap.size := by obtain ⟨_, _, hb⟩ := dat.b gc o none ho; exact hb.lt
  refine ⟨⟨hs', ?_, fun g o2 sp e => ?_⟩, fun g o2 sp e => ?_, hnew, fun t ht => ?_⟩
  · have := dr.sl
    rw [ho] at this
    have h2 := Sl.drop this (r.take 32).length
    rw [ho']
    change Sl w' _ ((r.drop 32).map B8)
    change Sl w' _ ((r.map B8).drop _) at h2
    rw [List.map_drop]
    have hl32 : (r.take 32).length = 32 := by rw [List.length_take]; rw [List.length_drop] at hr2; omega
    rw [hl32] at h2 ⊢; exact h2
  · rw [ho'] at e; injection e with e; injection e with e1 e2 e3
    subst e1
    exact dr.b gc o none ho
  · rw [ho'] at e; injection e with e; injection e with e1; exact e1.symm
  · rcases ht with ht | ht
    · intro e
      obtain ⟨t0, ht0, e0⟩ := off t ht gc e hgw
      exact hsep t0 (.inl ht0) e0
    · exact hsep t (.inr ht)
section
variable {w w' : World} {B d K N : Nat} {M : FS} {W : List MW} {S : Nat → Prop}
theorem AS.dv {w0 : World} {Wc : List MW} {gc : Nat} {k : ByteArray} {s : Sb} {r : List UInt8} (h : AS w0 w B d M Wc S gc k s r) (hg : GD K N M Wc) (hB : B ≤ w0.heap.size) (v : Value) : DE K N w0 B d v M Wc S (.returned v) w := by
  obtain ⟨l, pF, pM, KF, VF, KM, VM, WD, cW, vF, vM, he, dd, fp, bb, _⟩ := h
  exact ⟨rfl, _, ⟨⟨l, pF, pM, KF, VF, KM, VM, WD, cW, vF, vM, he, dd, rfl⟩, hg, Nat.le_trans hB bb.size⟩, fp, bb⟩
theorem DV.refuse (h : DV K N w B d M W S) (v : Value) (q : Nat) : DE (K + 1) (N + 16777217) w B d v M W S (.returned v) (w.drewN q) :=
  ⟨rfl, S, (h.drewN q).mono (by omega) (by omega), Fp.of_below (below_drewN (Below.refl _ _) q) _, below_drewN (Below.refl _ _) q⟩
/-- the bytes are cloned: the loop begins -/
theorem DV.begin {w0 w1 : World} {S1 : Nat → Prop} (h : DV K N w B d M W S1) (fp : Fp w0 w S S1) (bb : Below B w0 w) (b1 : Below w.heap.size w w1) {D : Option Addr} {c : Nat} {p : List UInt8} (k : ByteArray) (o : OwnB w1 w.heap.size 5 1 D p.length c (p.map B8)) : ∃ gc, AS w0 w1 B d M W S gc k ⟨D, p.length, c⟩ p ∧ (1 ≤ p.length → D = some ⟨gc, 0, none⟩) := by
  obtain ⟨⟨l, pF, pM, KF, VF, KM, VM, WD, cW, vF, vM, he, dd, rfl⟩, hg, hB⟩ := h
  have bb1 : Below B w0 w1 := bb.trans (b1.mono hB)
  have fp1 := fp.trans (Fp.of_below b1 _)
  rcases o.2.2 with ⟨_, h0, _⟩ | ⟨g, sp, hd, hgB, hb, _⟩
  · exact ⟨0, ⟨l, pF, pM, KF, VF, KM, VM, WD, cW, vF, vM, he, dd.below b1, fp1, bb1, fun h1 => by omega⟩, fun h1 => by omega⟩
  · refine ⟨g, ⟨l, pF, pM, KF, VF, KM, VM, WD, cW, vF, vM, he, dd.below b1, fp1, bb1, fun _ => ⟨⟨rfl, o.sl, fun g' o' sp' e => ?_⟩, fun g' o' sp' e => ?_, Nat.le_trans fp.sz hgB, fun t ht e => ?_⟩⟩, fun _ => hd⟩
    · simp only at e
      rw [hd] at e; injection e with e; injection e with e1 e2 e3
      subst e1
      exact ⟨Nat.le_trans hB hgB, _, hb⟩
    · simp only at e
      rw [hd] at e; injection e with e; injection e with e1; exact e1.symm
    · have := (dd.lt (g := g) (.inr (.inr (.inr (.inr (.inr (.inr (.inr (.inr (.inl ⟨t, ht, e⟩)))))))))).2
      omega
set_option maxRecDepth 100000 in
set_option maxHeartbeats 3200000 in
theorem dappend_calls (h : DV K N w B d M W S) (k : ByteArray) (A : Option Addr) (n c : Nat) (p : List UInt8) (hl : p.length = n) (hp : Sl w A (p.map B8)) (hpS : ∀ g o sp, A = some ⟨g, o, sp⟩ → 1 ≤ p.length → ¬ S g) (hks : k.size ≤ 9223372036854775807) (hK : K + 1 ≤ 90000) (hN : N + 16777217 ≤ 100000000000) : Calls Try.prog 34 #[.pointer (some ⟨d, 0, none⟩), .string k, .slice A n c] w (DE (K + 1) (N + 16777217) w B d (.int .i64 (dappNo k p (replay M W))) M (W ++ dappW k p (replay M W)) S) := by
  have HH := Lib.hid h
  have HR := Lib.hid (dright_calls k w hks)
  cases hrt : rightD k with
  | false =>
    have e1 : dappNo k p (replay M W) = 14 := by unfold dappNo; rw [hrt]; rfl
    have e2 : dappW k p (replay M W) = [] := by unfold dappW; rw [e1]; rfl
    rw [e1, e2, List.append_nil]
    rw [hrt] at HR
    clear h hp hpS hl e1 e2 hrt
    go_enter Try.func34, Try.ntmps34
    go_wp2_with fail
    refine HR.out.mono ?_
    rintro e w1 ⟨rfl, q, rfl⟩
    go_wp2_with fail
    go_ret
    exact HH.out.refuse _ q
  | true =>
    rw [hrt] at HR
    have hnow := h.g.now
    have HT : Hid (∀ q, Calls Try.prog 46 #[.pointer (some ⟨d, 0, none⟩)] (w.drewN q) fun e w' => e = .returned (.int .i64 (totF (replay M W) : Int)) ∧ ∃ q', w' = (w.drewN q).drewN q') := (show ∀ q, _ from fun q => total_calls (h.drewN q) (by omega))
    by_cases hfull : 16777216 - totF (replay M W) < p.length
    · have e1 : dappNo k p (replay M W) = 9 := by unfold dappNo; rw [hrt, if_pos rfl, if_pos hfull]
      have e2 : dappW k p (replay M W) = [] := by unfold dappW; rw [e1]; rfl
      rw [e1, e2, List.append_nil]
      have hgt : (16777216 - (totF (replay M W) : Int)) < (n : Int) := by omega
      have hw : IntKind.i64.wrap (16777216 - (totF (replay M W) : Int)) = 16777216 - (totF (replay M W) : Int) := by rw [IntKind.wrap_i64]; omega
      clear h hp hpS hl e1 e2 hrt hnow hfull
      generalize totF (replay M W) = tt at *
      go_enter Try.func34, Try.ntmps34
      go_wp2_with fail
      refine HR.out.mono ?_
      rintro e w1 ⟨rfl, q, rfl⟩
      go_wp2_with fail
      refine (HT.out q).mono ?_
      rintro e w2 ⟨rfl, q2, hw2⟩
      rw [World.drewN_drewN] at hw2
      subst hw2
      go_wp2_with fail
      go_ret
      exact HH.out.refuse _ _
    · have e1 : dappNo k p (replay M W) = 0 := by unfold dappNo; rw [hrt, if_pos rfl, if_neg hfull]
      have e2 : dappW k p (replay M W) = appC k (replay M W) ++ (pieces p).map (groX k) := by unfold dappW; rw [e1]; rfl
      rw [e1, e2]
      have hgt : ¬ (16777216 - (totF (replay M W) : Int)) < (n : Int) := by omega
      have hw : IntKind.i64.wrap (16777216 - (totF (replay M W) : Int)) = 16777216 - (totF (replay M W) : Int) := by rw [IntKind.wrap_i64]; omega
      have hn16 : n ≤ 16777216 := by omega
      have HTT := Lib.hid (show totF (replay M W) + p.length ≤ 16777216 by omega)
      have HPL := Lib.hid hl
      have HSP : Hid (∀ W1 S1, Fp w W1 S S1 → Sl W1 A (p.map B8)) := (show ∀ W1 S1, _ from fun W1 S1 hW => Sl.fp hp hW (fun g o sp e h => hpS g o sp e (by rwa [List.length_map] at h)))
      have HGQ : Hid (∀ q, ∃ (sd : Option Addr) (sn sc pF : Nat), (w.drewN q).cell? ⟨d, 0, none⟩ = some (.pointer (some ⟨pF, 0, none⟩)) ∧ sn = (bytesF k (replay M W)).length ∧ Calls Try.prog 69 #[.pointer (some ⟨pF, 0, none⟩), .string k] (w.drewN q) fun e w' => e = .returned (.tuple #[.slice sd sn sc, .bool (getF k (replay M W)).isSome]) ∧ ∃ q', w' = (w.drewN q).drewN q') := (show ∀ q, _ from fun q => (h.drewN q).get (by omega) k)
      cases hgf : getF k (replay M W) with
      | none =>
        have HC0 := Lib.hid (show appC k (replay M W) = [creX k] from by unfold appC; rw [hgf]; rfl)
        rw [hgf] at HGQ
        have HD : Hid (∀ q, Calls Try.prog 70 #[.pointer (some ⟨d, 0, none⟩), .agg #[.int .i64 0, .string k, .string ⟨#[]⟩, .int .i64 0, .slice none 0 0]] (w.drewN q) fun e w' => e = .returned (.tuple #[]) ∧ Hid (∃ S1, DV (K + 1) (N + 1) w' B d M (W ++ appC k (replay M W)) S1 ∧ Fp w w' S S1 ∧ Below B w w' ∧ Way (K + 1) (N + 1) M k (W ++ (appC k (replay M W) ++ (pieces p).map (groX k))) (W ++ appC k (replay M W)) (totF (replay M W) + p.length) p)) := (show ∀ q, _ from fun q => by
          have hr := h.rise
          have ht := totF_set k [] (replay M W) hr
          have hlen := setF_len k [] (replay M W)
          have hd0 := (h.drewN q).mono (K' := K + 1) (by omega) (Nat.le_refl N)
          rw [hgf] at ht
          simp at ht
          have hw0 := below_drewN (Below.refl w.heap.size w) q
          rw [HC0.out]
          refine (hd0.do_ (creX k) (creX_ok k _) rfl (by rw [creX_app]; omega) (by rw [creX_app]; omega) hK (by omega)).mono ?_
          rintro e w' ⟨rfl, S', r1, r2, r3⟩
          refine ⟨rfl, (show ∃ S1, _ from ⟨S', r1, (Fp.of_below hw0 _).trans r2, (hw0.mono h.b).trans r3, ⟨by simp, r1.g, ?_, ?_⟩⟩)⟩
          · rw [replay_app, creX_app, getF_setF k hr, if_pos rfl]; rfl
          · rw [replay_app, creX_app]; omega)
        clear h hp hpS hl e1 e2 hrt hnow hfull hgf
        generalize totF (replay M W) = tt at *
        generalize appC k (replay M W) = w0s at *
        go_enter Try.func34, Try.ntmps34
        go_wp2_with fail
        refine HR.out.mono ?_
        rintro e w1 ⟨rfl, q, rfl⟩
        go_wp2_with fail
        refine (HT.out q).mono ?_
        rintro e w2 ⟨rfl, q2, hw2⟩
        rw [World.drewN_drewN] at hw2
        subst hw2
        obtain ⟨sd, sn, sc, pF, c0, _, hG⟩ := HGQ.out (q + q2)
        have HG := Lib.hid hG
        clear hG
        go_wp2_with fail
        refine HG.out.mono ?_
        rintro e w3 ⟨rfl, q3, hw3⟩
        rw [World.drewN_drewN] at hw3
        subst hw3
        clear c0 HG HGQ HT HR
        go_wp2_with fail
        refine (HD.out _).mono ?_
        rintro e w4 ⟨rfl, HB4⟩
        have hb04 : Sl w4 A (p.map B8) := by
          obtain ⟨_, _, r2, _, _⟩ := HB4.out
          exact HSP.out w4 _ r2
        have HCl := Lib.hid (cloneB_calls A n c p w4 hb04 HPL.out (by omega))
        unfold BytesEnd at HCl
        rw [HPL.out] at HCl
        clear hb04
        go_wp2_with fail
        refine HCl.out.mono ?_
        rintro e w5 ⟨D, c5, rfl, o5, b5⟩
        have hHC : n ≤ c5 := o5.le
        have HLoop : Hid (∃ gc, (∃ Wc, AS w w5 B d M Wc S gc k ⟨D, n, c5⟩ p ∧ Way (K + 1) (N + 1 + 0) M k (W ++ (w0s ++ (pieces p).map (groX k))) Wc (tt + p.length) p) ∧ (1 ≤ n → D = some ⟨gc, 0, none⟩)) := (show ∃ gc, _ from by
          obtain ⟨S1, r1, r2, r3, r4⟩ := HB4.out
          rw [← HPL.out] at o5 ⊢
          obtain ⟨gc, a1, a2⟩ := r1.begin r2 r3 b5 k o5
          exact ⟨gc, ⟨_, a1, r4⟩, a2⟩)
        obtain ⟨gc, hAS, hDg⟩ := HLoop.out
        have HA0 := Lib.hid hAS
        have HBw := Lib.hid HH.out.b
        clear HLoop hAS o5 b5 HCl HB4 HSP
        go_wp2_with fail
        go_loopw [9, 10] (fun s9 _ wr => ∃ (A' : Option Addr) (n' c' : Nat) (r : List UInt8) (j : Nat), s9 = .slice A' n' c' ∧ n' ≤ c' ∧ n' ≤ 16777216 ∧ Hid (n' = r.length) ∧ (1 ≤ n' → ∃ o, A' = some ⟨gc, o, none⟩) ∧ Hid (j + n' ≤ n) ∧ Hid (∃ Wc, AS w wr B d M Wc S gc k ⟨A', n', c'⟩ r ∧ Way (K + 1) (N + 1 + j) M k (W ++ (w0s ++ (pieces p).map (groX k))) Wc (tt + p.length) r)) (fun s9 _ _ => match s9 with | .slice _ n' _ => n' | _ => 0)
        case atStart => exact ⟨D, n, c5, p, 0, rfl, hHC, hn16, HPL.out.symm, fun h => ⟨0, hDg h⟩, (show 0 + n ≤ n by omega), HA0.out⟩
        case round =>
          obtain ⟨A', n', c', r, j, rfl, hc', hnn, HL, hA', HJ, HA⟩ := hrel
          by_cases hpos : 0 < n'
          · have i0 : (0 : Int) < (n' : Int) := by omega
            obtain ⟨o, rfl⟩ := hA' hpos
            obtain ⟨m, hm⟩ : ∃ m, m = (r.take 32).length := ⟨_, rfl⟩
            have hml : m = min 32 n' := by rw [hm, List.length_take, HL.out]
            have hmin : min (32 : Int) (n' : Int) = (m : Int) := by omega
            have j0 : (0 : Int) ≤ (m : Int) := by omega
            have j1 : (m : Int) ≤ (c' : Int) := by omega
            have j2 : (m : Int) ≤ (n' : Int) := by omega
            have j3 : (n' : Int) ≤ (c' : Int) := by omega
            have j4 : m ≤ n' := by omega
            have HM := Lib.hid hm
            have HML := Lib.hid hml
            have HDo : Hid (∃ Wc, (Calls Try.prog 70 #[.pointer (some ⟨d, 0, none⟩), .agg #[.int .i64 1, .string k, .string ⟨#[]⟩, .int .i64 0, .slice (some ⟨gc, o, none⟩) m c']] wr fun e w' => e = .returned (.tuple #[]) ∧ Hid (∀ s' : Sb, s'.n = (r.drop 32).length → (1 ≤ (r.drop 32).length → ∃ o', (some (⟨gc, o, none⟩ : Addr)) = some ⟨gc, o', none⟩ ∧ s'.d = some ⟨gc, o' + (r.take 32).length, none⟩) → AS w w' B d M (Wc ++ [groX k (r.take 32)]) S gc k s' (r.drop 32))) ∧ Way (K + 1) (N + 1 + j + 1) M k (W ++ (w0s ++ (pieces p).map (groX k))) (Wc ++ [groX k (r.take 32)]) (tt + p.length) (r.drop 32)) := (show ∃ Wc, _ from by
              obtain ⟨Wc, a1, a2⟩ := HA.out
              have hr1 : 1 ≤ r.length := by rw [← HL.out]; exact hpos
              obtain ⟨ok1, way1⟩ := a2.step hr1 HTT.out
              have hfl := a2.g.now.2
              have hnl := a2.g.n
              have hj := HJ.out
              rw [hm]
              exact ⟨Wc, a1.step hr1 ok1 (by omega) (by omega) HBw.out, way1⟩)
            obtain ⟨Wc, hDo, hway⟩ := HDo.out
            have HD1 := Lib.hid hDo
            have HW1 := Lib.hid hway
            clear hDo hway HDo hm hml HA
            go_wp2_with fail
            refine HD1.out.mono ?_
            rintro e w6 ⟨rfl, HN⟩
            clear HD1
            obtain ⟨A2, hA2⟩ : ∃ A2, (if c' = m then (some ⟨gc, o, none⟩ : Option Addr) else some ⟨gc, o + m, none⟩) = A2 := ⟨_, rfl⟩
            have HNext : Hid (∃ (A3 : Option Addr) (n3 c3 : Nat) (r3 : List UInt8) (j3 : Nat), Value.slice A2 (n' - m) (c' - m) = .slice A3 n3 c3 ∧ n3 ≤ c3 ∧ n3 ≤ 16777216 ∧ Hid (n3 = r3.length) ∧ (1 ≤ n3 → ∃ o, A3 = some ⟨gc, o, none⟩) ∧ Hid (j3 + n3 ≤ n) ∧ Hid (∃ Wc, AS w w6 B d M Wc S gc k ⟨A3, n3, c3⟩ r3 ∧ Way (K + 1) (N + 1 + j3) M k (W ++ (w0s ++ (pieces p).map (groX k))) Wc (tt + p.length) r3)) := (show ∃ A3, _ from by
              have e1 := HM.out
              have e2 := HML.out
              have e3 := HL.out
              have e4 := HJ.out
              have hdl : n' - m = (r.drop 32).length := by rw [List.length_drop, e1, List.length_take]; omega
              have hnz : 1 ≤ n' - m → c' ≠ m := by omega
              refine ⟨A2, n' - m, c' - m, r.drop 32, j + 1, rfl, by omega, by omega, hdl, fun h1 => ⟨o + m, ?_⟩, (show j + 1 + (n' - m) ≤ n by omega), (show ∃ Wc, _ from ⟨_, HN.out ⟨A2, n' - m, c' - m⟩ hdl (fun h1 => ⟨o, rfl, ?_⟩), HW1.out⟩)⟩
              · rw [← hA2, if_neg (hnz h1)]
              · rw [← e1]; show A2 = _
                rw [← hA2, if_neg (hnz (by omega))])
            clear HN HM HML HW1
            go_wp2_with fail
            exact ⟨HNext.out, by show n' - m < n'; omega⟩
          · obtain rfl : n' = 0 := by omega
            have i0 : ¬ ((0 : Int) < ((0 : Nat) : Int)) := by omega
            have HFin : Hid (DE (K + 1) (N + 16777217) w B d (.int .i64 0) M (W ++ (w0s ++ (pieces p).map (groX k))) S (.returned (.int .i64 0)) wr) := (show DE _ _ _ _ _ _ _ _ _ _ _ from by
              obtain ⟨Wc, a1, a2⟩ := HA.out
              have hr0 : r = [] := List.eq_nil_of_length_eq_zero HL.out.symm
              subst hr0
              have he := a2.e
              rw [pieces_nil, List.map_nil, List.append_nil] at he
              rw [← he]
              have hj := HJ.out
              exact a1.dv (a2.g.mono (Nat.le_refl _) (by omega)) HBw.out _)
            clear HA
            go_wp2_with fail
            go_ret
            exact HFin.out
      | some v =>
        have HC0 := Lib.hid (show appC k (replay M W) = [] from by unfold appC; rw [hgf]; rfl)
        have HB0 : Hid (∀ q, ∃ S1, DV (K + 1) (N + 1) (w.drewN q) B d M (W ++ appC k (replay M W)) S1 ∧ Fp w (w.drewN q) S S1 ∧ Below B w (w.drewN q) ∧ Way (K + 1) (N + 1) M k (W ++ (appC k (replay M W) ++ (pieces p).map (groX k))) (W ++ appC k (replay M W)) (totF (replay M W) + p.length) p) := (show ∀ q, _ from fun q => by
          rw [HC0.out]
          have hw0 := below_drewN (Below.refl w.heap.size w) q
          have hd0 := (h.drewN q).mono (K' := K + 1) (N' := N + 1) (by omega) (by omega)
          rw [List.append_nil, List.nil_append]
          exact ⟨S, hd0, Fp.of_below hw0 _, hw0.mono h.b, ⟨rfl, hd0.g, by rw [hgf]; rfl, rfl⟩⟩)
        rw [hgf] at HGQ
        clear h hp hpS hl e1 e2 hrt hnow hfull hgf
        generalize totF (replay M W) = tt at *
        generalize appC k (replay M W) = w0s at *
        go_enter Try.func34, Try.ntmps34
        go_wp2_with fail
        refine HR.out.mono ?_
        rintro e w1 ⟨rfl, q, rfl⟩
        go_wp2_with fail
        refine (HT.out q).mono ?_
        rintro e w2 ⟨rfl, q2, hw2⟩
        rw [World.drewN_drewN] at hw2
        subst hw2
        obtain ⟨sd, sn, sc, pF, c0, _, hG⟩ := HGQ.out (q + q2)
        have HG := Lib.hid hG
        clear hG
        go_wp2_with fail
        refine HG.out.mono ?_
        rintro e w3 ⟨rfl, q3, hw3⟩
        rw [World.drewN_drewN] at hw3
        subst hw3
        clear c0 HG HGQ HT HR
        have HB4 := Lib.hid (HB0.out (q + q2 + q3))
        generalize w.drewN (q + q2 + q3) = w4 at *
        have hb04 : Sl w4 A (p.map B8) := by
          obtain ⟨_, _, r2, _, _⟩ := HB4.out
          exact HSP.out w4 _ r2
        have HCl := Lib.hid (cloneB_calls A n c p w4 hb04 HPL.out (by omega))
        unfold BytesEnd at HCl
        rw [HPL.out] at HCl
        clear hb04
        go_wp2_with fail
        refine HCl.out.mono ?_
        rintro e w5 ⟨D, c5, rfl, o5, b5⟩
        have hHC : n ≤ c5 := o5.le
        have HLoop : Hid (∃ gc, (∃ Wc, AS w w5 B d M Wc S gc k ⟨D, n, c5⟩ p ∧ Way (K + 1) (N + 1 + 0) M k (W ++ (w0s ++ (pieces p).map (groX k))) Wc (tt + p.length) p) ∧ (1 ≤ n → D = some ⟨gc, 0, none⟩)) := (show ∃ gc, _ from by
          obtain ⟨S1, r1, r2, r3, r4⟩ := HB4.out
          rw [← HPL.out] at o5 ⊢
          obtain ⟨gc, a1, a2⟩ := r1.begin r2 r3 b5 k o5
          exact ⟨gc, ⟨_, a1, r4⟩, a2⟩)
        obtain ⟨gc, hAS, hDg⟩ := HLoop.out
        have HA0 := Lib.hid hAS
        have HBw := Lib.hid HH.out.b
        clear HLoop hAS o5 b5 HCl HB4 HSP
        go_wp2_with fail
        go_loopw [9, 10] (fun s9 _ wr => ∃ (A' : Option Addr) (n' c' : Nat) (r : List UInt8) (j : Nat), s9 = .slice A' n' c' ∧ n' ≤ c' ∧ n' ≤ 16777216 ∧ Hid (n' = r.length) ∧ (1 ≤ n' → ∃ o, A' = some ⟨gc, o, none⟩) ∧ Hid (j + n' ≤ n) ∧ Hid (∃ Wc, AS w wr B d M Wc S gc k ⟨A', n', c'⟩ r ∧ Way (K + 1) (N + 1 + j) M k (W ++ (w0s ++ (pieces p).map (groX k))) Wc (tt + p.length) r)) (fun s9 _ _ => match s9 with | .slice _ n' _ => n' | _ => 0)
        case atStart => exact ⟨D, n, c5, p, 0, rfl, hHC, hn16, HPL.out.symm, fun h => ⟨0, hDg h⟩, (show 0 + n ≤ n by omega), HA0.out⟩
        case round =>
          obtain ⟨A', n', c', r, j, rfl, hc', hnn, HL, hA', HJ, HA⟩ := hrel
          by_cases hpos : 0 < n'
          · have i0 : (0 : Int) < (n' : Int) := by omega
            obtain ⟨o, rfl⟩ := hA' hpos
            obtain ⟨m, hm⟩ : ∃ m, m = (r.take 32).length := ⟨_, rfl⟩
            have hml : m = min 32 n' := by rw [hm, List.length_take, HL.out]
            have hmin : min (32 : Int) (n' : Int) = (m : Int) := by omega
            have j0 : (0 : Int) ≤ (m : Int) := by omega
            have j1 : (m : Int) ≤ (c' : Int) := by omega
            have j2 : (m : Int) ≤ (n' : Int) := by omega
            have j3 : (n' : Int) ≤ (c' : Int) := by omega
            have j4 : m ≤ n' := by omega
            have HM := Lib.hid hm
            have HML := Lib.hid hml
            have HDo : Hid (∃ Wc, (Calls Try.prog 70 #[.pointer (some ⟨d, 0, none⟩), .agg #[.int .i64 1, .string k, .string ⟨#[]⟩, .int .i64 0, .slice (some ⟨gc, o, none⟩) m c']] wr fun e w' => e = .returned (.tuple #[]) ∧ Hid (∀ s' : Sb, s'.n = (r.drop 32).length → (1 ≤ (r.drop 32).length → ∃ o', (some (⟨gc, o, none⟩ : Addr)) = some ⟨gc, o', none⟩ ∧ s'.d = some ⟨gc, o' + (r.take 32).length, none⟩) → AS w w' B d M (Wc ++ [groX k (r.take 32)]) S gc k s' (r.drop 32))) ∧ Way (K + 1) (N + 1 + j + 1) M k (W ++ (w0s ++ (pieces p).map (groX k))) (Wc ++ [groX k (r.take 32)]) (tt + p.length) (r.drop 32)) := (show ∃ Wc, _ from by
              obtain ⟨Wc, a1, a2⟩ := HA.out
              have hr1 : 1 ≤ r.length := by rw [← HL.out]; exact hpos
              obtain ⟨ok1, way1⟩ := a2.step hr1 HTT.out
              have hfl := a2.g.now.2
              have hnl := a2.g.n
              have hj := HJ.out
              rw [hm]
              exact ⟨Wc, a1.step hr1 ok1 (by omega) (by omega) HBw.out, way1⟩)
            obtain ⟨Wc, hDo, hway⟩ := HDo.out
            have HD1 := Lib.hid hDo
            have HW1 := Lib.hid hway
            clear hDo hway HDo hm hml HA
            go_wp2_with fail
            refine HD1.out.mono ?_
            rintro e w6 ⟨rfl, HN⟩
            clear HD1
            obtain ⟨A2, hA2⟩ : ∃ A2, (if c' = m then (some ⟨gc, o, none⟩ : Option Addr) else some ⟨gc, o + m, none⟩) = A2 := ⟨_, rfl⟩
            have HNext : Hid (∃ (A3 : Option Addr) (n3 c3 : Nat) (r3 : List UInt8) (j3 : Nat), Value.slice A2 (n' - m) (c' - m) = .slice A3 n3 c3 ∧ n3 ≤ c3 ∧ n3 ≤ 16777216 ∧ Hid (n3 = r3.length) ∧ (1 ≤ n3 → ∃ o, A3 = some ⟨gc, o, none⟩) ∧ Hid (j3 + n3 ≤ n) ∧ Hid (∃ Wc, AS w w6 B d M Wc S gc k ⟨A3, n3, c3⟩ r3 ∧ Way (K + 1) (N + 1 + j3) M k (W ++ (w0s ++ (pieces p).map (groX k))) Wc (tt + p.length) r3)) := (show ∃ A3, _ from by
              have e1 := HM.out
              have e2 := HML.out
              have e3 := HL.out
              have e4 := HJ.out
              have hdl : n' - m = (r.drop 32).length := by rw [List.length_drop, e1, List.length_take]; omega
              have hnz : 1 ≤ n' - m → c' ≠ m := by omega
              refine ⟨A2, n' - m, c' - m, r.drop 32, j + 1, rfl, by omega, by omega, hdl, fun h1 => ⟨o + m, ?_⟩, (show j + 1 + (n' - m) ≤ n by omega), (show ∃ Wc, _ from ⟨_, HN.out ⟨A2, n' - m, c' - m⟩ hdl (fun h1 => ⟨o, rfl, ?_⟩), HW1.out⟩)⟩
              · rw [← hA2, if_neg (hnz h1)]
              · rw [← e1]; show A2 = _
                rw [← hA2, if_neg (hnz (by omega))])
            clear HN HM HML HW1
            go_wp2_with fail
            exact ⟨HNext.out, by show n' - m < n'; omega⟩
          · obtain rfl : n' = 0 := by omega
            have i0 : ¬ ((0 : Int) < ((0 : Nat) : Int)) := by omega
            have HFin : Hid (DE (K + 1) (N + 16777217) w B d (.int .i64 0) M (W ++ (w0s ++ (pieces p).map (groX k))) S (.returned (.int .i64 0)) wr) := (show DE _ _ _ _ _ _ _ _ _ _ _ from by
              obtain ⟨Wc, a1, a2⟩ := HA.out
              have hr0 : r = [] := List.eq_nil_of_length_eq_zero HL.out.symm
              subst hr0
              have he := a2.e
              rw [pieces_nil, List.map_nil, List.append_nil] at he
              rw [← he]
              have hj := HJ.out
              exact a1.dv (a2.g.mono (Nat.le_refl _) (by omega)) HBw.out _)
            clear HA
            go_wp2_with fail
            go_ret
            exact HFin.out
end
end Go.Proofs.Ytbmgeomndfodpaa
