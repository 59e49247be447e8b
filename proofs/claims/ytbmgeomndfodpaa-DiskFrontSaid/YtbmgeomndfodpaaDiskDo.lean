/-
  The disk's do: a raw write on the files, and one more in the row.
-/
import Derived.Test.YtbmgeomndfodpaaDiskSt
import Derived.Deep.RegionLaw
namespace Go.Proofs.Ytbmgeomndfodpaa
open Go.RowKit Go.Mem Go.Proofs

section
variable {w w' W W' : World} {B d : Nat} {M F F' : FS} {l : List (MW × Sb)} {pF pM : Nat} {KF VF KM VM WD WD' : Option Addr} {cW cW' : Nat} {vF vM : List Sb} {x : MW} {s : Sb}
/-- the bytes of a write, and the disk -/
def FootX (S : Nat → Prop) (s : Sb) (g : Nat) : Prop := S g ∨ ∃ o sp, s.d = some ⟨g, o, sp⟩
theorem DD.push (h : DD W B d M F l pF pM KF VF KM VM WD cW vF vM) (ho : OwnB W' B 119 5 WD' (l.length + 1) cW' (flatW (l ++ [(x, s)]))) (kp : Kept W W' WD WD') (hb : Below B W W') (hs : W.heap.size ≤ W'.heap.size) (hD : Dat W B x s) (hfr : ∀ t, t ∈ vF ∨ t ∈ vM → ∀ g o sp, s.d = some ⟨g, o, sp⟩ → t.d ≠ some ⟨g, 0, none⟩) :
    DD (W'.setCell ⟨d, 2, none⟩ (.slice WD' (l.length + 1) cW')) B d M F (l ++ [(x, s)]) pF pM KF VF KM VM WD' cW' vF vM ∧ Fp W (W'.setCell ⟨d, 2, none⟩ (.slice WD' (l.length + 1) cW')) (FootX (FootD d pF pM KF VF KM VM WD vF vM l) s) (FootD d pF pM KF VF KM VM WD' vF vM (l ++ [(x, s)])) ∧ Below B W (W'.setCell ⟨d, 2, none⟩ (.slice WD' (l.length + 1) cW')) ∧ ∀ (x : MW) (s : Sb), Dat W B x s → Dat (W'.setCell ⟨d, 2, none⟩ (.slice WD' (l.length + 1) cW')) B x s := by
  have hk : ∀ g, g < W.heap.size → g ≠ d → WD ≠ some ⟨g, 0, none⟩ → (W'.setCell ⟨d, 2, none⟩ (.slice WD' (l.length + 1) cW')).heap[g]? = W.heap[g]? := fun g hg h1 h2 => (Below.heap_setCell W' ⟨d, 2, none⟩ _ g h1).trans (kp.1 g hg h2)
  have hdW : WD ≠ some ⟨d, 0, none⟩ := own_ne_blkN h.ws h.b (by decide)
  have hbd : Blk W' d 116 [.pointer (some ⟨pF, 0, none⟩), .pointer (some ⟨pM, 0, none⟩), .slice WD l.length cW] := kp.blk h.b hdW
  have typ : ∀ {g : Nat} {t : TypeId} {cs : List Value}, Blk W g t cs → t ≠ 116 → t ≠ 119 → (W'.setCell ⟨d, 2, none⟩ (.slice WD' (l.length + 1) cW')).heap[g]? = W.heap[g]? := fun {g t cs} hb h1 h2 => hk g hb.lt (hb.ne_ h.b h1) (own_ne_blkN h.ws hb (fun e => h2 e.symm))
  have vw : ∀ s : Sb, ∀ (bs : List UInt8), s.n = bs.length → Vw W B 5 1 s.d s.n s.c (bs.map B8) → Vw (W'.setCell ⟨d, 2, none⟩ (.slice WD' (l.length + 1) cW')) B 5 1 s.d s.n s.c (bs.map B8) := fun s bs _ hv => hv.keep fun g hg => by
    obtain ⟨cs, hb⟩ := hv.blk hg
    exact typ hb (by decide) (by decide)
  obtain ⟨_, bF⟩ := h.f.blk
  obtain ⟨_, bM⟩ := h.m.blk
  have hdW' : WD' ≠ some ⟨d, 0, none⟩ := own_ne_blkN ho hbd (by decide)
  refine ⟨⟨?_, h.dB, h.f.keep (typ bF (by decide) (by decide)) (fun g _ hg => by obtain ⟨_, b⟩ := h.f.blkK hg; exact typ b (by decide) (by decide)) (fun g _ hg => by obtain ⟨_, b⟩ := h.f.blkV hg; exact typ b (by decide) (by decide)) (fun s _ => vw s), h.m.keep (typ bM (by decide) (by decide)) (fun g _ hg => by obtain ⟨_, b⟩ := h.m.blkK hg; exact typ b (by decide) (by decide)) (fun g _ hg => by obtain ⟨_, b⟩ := h.m.blkV hg; exact typ b (by decide) (by decide)) (fun s _ => vw s), ?_, fun y hy => ?_, h.sh, fun y hy => ?_, h.pp, h.kk, h.vv⟩, ⟨by simpa [World.setCell] using hs, fun g hg hn => ?_, fun g hg hn => ?_⟩, hb.setCell (p := ⟨d, 2, none⟩) h.dB _, fun x s hx => hx.keep fun g o sp e => by
    obtain ⟨_, cs, b⟩ := hx.b g o sp e; exact typ b (by decide) (by decide)⟩
  · have := hbd.set_ 2 (.slice WD' (l.length + 1) cW')
    simpa using this
  · rw [show (l ++ [(x, s)]).length = l.length + 1 by simp]
    exact ho.farN hdW' _
  · rcases List.mem_append.1 hy with hy | hy
    · exact (h.wd y hy).keep fun g o sp e => by
        obtain ⟨_, cs, b⟩ := (h.wd y hy).b g o sp e; exact typ b (by decide) (by decide)
    · obtain rfl := List.mem_singleton.1 hy
      exact hD.keep fun g o sp e => by
        obtain ⟨_, cs, b⟩ := hD.b g o sp e; exact typ b (by decide) (by decide)
  · rcases List.mem_append.1 hy with hy | hy
    · exact h.wf y hy
    · obtain rfl := List.mem_singleton.1 hy
      exact fun t ht g o sp e => hfr t ht g o sp e
  · refine hk g hg (fun e => hn (.inl (.inl e))) (fun e => hn (.inl ?_))
    exact .inr (.inr (.inr (.inr (.inr (.inr (.inr (.inl e)))))))
  · rcases hn with e | e | e | e | e | e | e | e | e | ⟨y, hy, e⟩
    · exact .inl (.inl e)
    · exact .inl (.inr (.inl e))
    · exact .inl (.inr (.inr (.inl e)))
    · exact .inl (.inr (.inr (.inr (.inl e))))
    · exact .inl (.inr (.inr (.inr (.inr (.inl e)))))
    · exact .inl (.inr (.inr (.inr (.inr (.inr (.inl e))))))
    · exact .inl (.inr (.inr (.inr (.inr (.inr (.inr (.inl e)))))))
    · rcases kp.2 with h1 | h1
      · exact .inl (.inr (.inr (.inr (.inr (.inr (.inr (.inr (.inl (by rw [← h1]; exact e)))))))))
      · rw [h1] at e; injection e with e; injection e with e; omega
    · exact .inl (.inr (.inr (.inr (.inr (.inr (.inr (.inr (.inr (.inl e)))))))))
    · rcases List.mem_append.1 hy with hy | hy
      · exact .inl (.inr (.inr (.inr (.inr (.inr (.inr (.inr (.inr (.inr ⟨y, hy, e⟩)))))))))
      · obtain rfl := List.mem_singleton.1 hy
        exact .inr e
end
theorem infoW : (Try.prog.info? 119).map (fun i => (i.zero, i.size, i.bytes)) = some (some (.agg #[.int .i64 0, .string ByteArray.empty, .string ByteArray.empty, .int .i64 0, .slice none 0 0]), 5, 72) := by kernel_rfl
def DoE (w : World) (B d : Nat) (M F : FS) (l : List (MW × Sb)) (pF pM : Nat) (KM VM : Option Addr) (vF0 vM : List Sb) (S : Nat → Prop) (e : Ending) (w' : World) : Prop := e = .returned (.tuple #[]) ∧ ∃ KF VF WD cW vF, DD w' B d M F l pF pM KF VF KM VM WD cW vF vM ∧ Fp w w' S (FootD d pF pM KF VF KM VM WD vF vM l) ∧ Below B w w' ∧ (∀ t ∈ vF, ∀ g, t.d = some ⟨g, 0, none⟩ → g < w.heap.size → ∃ t0 ∈ vF0, t0.d = some ⟨g, 0, none⟩) ∧ ∀ (x : MW) (s : Sb), Dat w B x s → (∀ t ∈ vF0, ∀ g o sp, s.d = some ⟨g, o, sp⟩ → t.d ≠ some ⟨g, 0, none⟩) → Dat w' B x s
set_option maxRecDepth 100000 in
set_option maxHeartbeats 3200000 in
theorem do_calls {w : World} {B d : Nat} {M F : FS} {l : List (MW × Sb)} {pF pM : Nat} {KF VF KM VM WD : Option Addr} {cW : Nat} {vF vM : List Sb} (h : DD w B d M F l pF pM KF VF KM VM WD cW vF vM) (x : MW) (s : Sb) (hx : x.ok F) (hD : Dat w B x s) (hfr : ∀ t, t ∈ vF ∨ t ∈ vM → ∀ g o sp, s.d = some ⟨g, o, sp⟩ → t.d ≠ some ⟨g, 0, none⟩) (hn : F.length ≤ 90000) (hl : l.length ≤ 100000000000) (hBw : B ≤ w.heap.size) :
    Calls Try.prog 70 #[.pointer (some ⟨d, 0, none⟩), .agg (x.cells s)] w (DoE w B d M (x.app F) (l ++ [(x, s)]) pF pM KM VM vF vM (FootX (FootD d pF pM KF VF KM VM WD vF vM l) s)) := by
  have hal := (Below.refl w.heap.size w).alloc (Nat.le_refl _) (.cells (x.cells s) 119)
  have hbx := Blk.new w 119 (x.cells s)
  have h1 := h.below hal
  have hD1 : Dat (w.alloc (.cells (x.cells s) 119)) B x s := hD.keep fun g o sp e => by
    obtain ⟨_, cs, hb⟩ := hD.b g o sp e; exact hal.block g hb.lt
  have hwl : ∀ g, FootD d pF pM KF VF KM VM WD vF vM l g → g < w.heap.size := fun g hg => (h.lt hg).2
  have hAp : Hid (Calls Try.prog 72 #[.pointer (some ⟨d, 0, none⟩), .agg (x.cells s)] (w.alloc (.cells (x.cells s) 119)) fun e w2 => e = .returned (.tuple #[]) ∧ ∃ KF' VF' vF', DD w2 B d M (x.app F) l pF pM KF' VF' KM VM WD cW vF' vM ∧ Hid (Fp w w2 (FootD d pF pM KF VF KM VM WD vF vM l) (FootD d pF pM KF' VF' KM VM WD vF' vM l)) ∧ Hid (Below B w w2) ∧ Blk w2 w.heap.size 119 (x.cells s).toList ∧ Dat w2 B x s ∧ Hid (∀ t ∈ vF', ∀ g, t.d = some ⟨g, 0, none⟩ → g < w.heap.size → ∃ t0 ∈ vF, t0.d = some ⟨g, 0, none⟩) ∧ Hid (∀ (x : MW) (s : Sb), Dat w B x s → (∀ t ∈ vF, ∀ g o sp, s.d = some ⟨g, o, sp⟩ → t.d ≠ some ⟨g, 0, none⟩) → Dat w2 B x s) ∧ Hid (∀ t, t ∈ vF' ∨ t ∈ vM → ∀ g o sp, s.d = some ⟨g, o, sp⟩ → t.d ≠ some ⟨g, 0, none⟩)) := (show Calls _ _ _ _ _ from by
    refine (apply_calls h1.f h1.b x s hx hD.n hD1.sl hn (Nat.le_trans hBw hal.size)).mono fun e w2 he => ?_
    obtain ⟨rfl, KF', VF', vF', d2, fp, bb, off, dat⟩ := h1.app he
    refine ⟨rfl, KF', VF', vF', d2, (show Fp _ _ _ _ from (Fp.of_below hal _).trans fp), (show Below _ _ _ from (hal.mono hBw).trans bb), ?_, ?_, (show ∀ t ∈ vF', _ from fun t ht g e hg => ?_), (show ∀ (x : MW) (s : Sb), _ from fun x s hx hf => dat x s (hx.keep fun g o sp e => by
      obtain ⟨_, cs, hb⟩ := hx.b g o sp e; exact hal.block g hb.lt) hf), (show ∀ t, _ from fun t ht g o sp e => ?_)⟩
    · exact (fp.k _ hbx.lt (fun e => by have := hwl _ e; omega)).trans hbx
    · exact dat x s hD1 (fun t ht => hfr t (.inl ht))
    · rcases off t ht with a | a | ⟨g', a, b⟩ | ⟨s0, hs0, a, b⟩
      · exact ⟨t, a, e⟩
      · rw [a] at e; cases e
      · rw [a] at e; injection e with e; injection e with e; have := hal.size; omega
      · exact ⟨s0, hs0, by rw [← a]; exact e⟩
    · rcases ht with ht | ht
      · obtain ⟨_, cs, hb⟩ := hD.b g o sp e
        rcases off t ht with a | a | ⟨g', a, b⟩ | ⟨s0, hs0, a, b⟩
        · exact hfr t (.inl a) g o sp e
        · rw [a]; exact fun e => by cases e
        · intro e2
          rw [a] at e2; injection e2 with e2; injection e2 with e2
          have := hb.lt; have := hal.size; omega
        · rw [a]; exact hfr s0 (.inl hs0) g o sp e
      · exact hfr t (.inr ht) g o sp e)
  obtain ⟨i0, hi, hz0, hz1, hz2⟩ := info_parts infoW
  obtain ⟨kind, name, to_, size, data⟩ := x
  obtain ⟨sd, sn, sc⟩ := s
  unfold MW.cells wcells at hAp hal hbx
  unfold MW.cells wcells
  simp only at hAp hal hbx ⊢
  have b0 := hbx.cell 0
  have b1 := hbx.cell 1
  have b2 := hbx.cell 2
  have b3 := hbx.cell 3
  have b4 := hbx.cell 4
  simp only [List.getElem?_cons_zero, List.getElem?_cons_succ] at b0 b1 b2 b3 b4
  clear h hD hfr h1 hD1 hal hbx hx
  go_enter Try.func70, Try.ntmps70
  go_upto_region 1 with fail
  generalize w.alloc (.cells #[.int .i64 kind, .string name, .string to_, .int .i64 size, .slice sd sn sc] 119) = w1 at *
  go_wp2_with fail
  refine hAp.out.mono ?_
  rintro e w2 ⟨rfl, KF', VF', vF', d2, FP, BB, bx2, dD2, OF, DT, FR⟩
  have hB2 : B ≤ w2.heap.size := Nat.le_trans hBw BB.out.size
  have hcs : (#[.int .i64 kind, .string name, .string to_, .int .i64 size, .slice sd sn sc] : Array Value) = wcells kind name to_ size ⟨sd, sn, sc⟩ := rfl
  have HSR : Hid (Src Try.prog 5 114 (.slice (some ⟨w2.heap.size, 0, none⟩) 1 1) 1 (wcells kind name to_ size ⟨sd, sn, sc⟩).toList ((w2.drewN 1).alloc (.cells (wcells kind name to_ size ⟨sd, sn, sc⟩) 119))) := (show Src _ _ _ _ _ _ _ from srcOfSl Try.underlying114 rfl (by simp) (Blk.new (w2.drewN 1) 119 _).sl (by simp) (by intro u hu; simp [wcells] at hu; rcases hu with rfl | rfl | rfl | rfl | rfl <;> rfl))
  have HOW : Hid (OwnB ((w2.drewN 1).alloc (.cells (wcells kind name to_ size ⟨sd, sn, sc⟩) 119)) B 119 5 WD l.length cW (flatW l)) := (show OwnB _ _ _ _ _ _ _ _ from (d2.ws.drewN 1).alloc _)
  have hb2 : Below w2.heap.size w2 ((w2.drewN 1).alloc (.cells (wcells kind name to_ size ⟨sd, sn, sc⟩) 119)) := (below_drewN (Below.refl _ _) 1).alloc (Nat.le_refl _) _
  have HFin : Hid (∀ w5 D5 c5, OwnB w5 B 119 5 D5 (l.length + 1) c5 (flatW l ++ (wcells kind name to_ size ⟨sd, sn, sc⟩).toList) → Kept ((w2.drewN 1).alloc (.cells (wcells kind name to_ size ⟨sd, sn, sc⟩) 119)) w5 WD D5 → Below B ((w2.drewN 1).alloc (.cells (wcells kind name to_ size ⟨sd, sn, sc⟩) 119)) w5 → ((w2.drewN 1).alloc (.cells (wcells kind name to_ size ⟨sd, sn, sc⟩) 119)).heap.size ≤ w5.heap.size → w5.cell? ⟨d, 2, none⟩ = some (.slice WD l.length cW) ∧ w5.frozen? ⟨d, 2, none⟩ = false ∧ Hid (DoE w B d M (MW.app ⟨kind, name, to_, size, data⟩ F) (l ++ [(⟨kind, name, to_, size, data⟩, ⟨sd, sn, sc⟩)]) pF pM KM VM vF vM (FootX (FootD d pF pM KF VF KM VM WD vF vM l) ⟨sd, sn, sc⟩) (.returned (.tuple #[])) (w5.setCell ⟨d, 2, none⟩ (.slice D5 (l.length + 1) c5)))) := (show ∀ w5 D5 c5, _ from fun w5 D5 c5 ho kp bb hs => by
    have d3 := d2.below hb2
    have hdW : WD ≠ some ⟨d, 0, none⟩ := own_ne_blkN d3.ws d3.b (by decide)
    have hbd := kp.blk d3.b hdW
    have dD3 : Dat ((w2.drewN 1).alloc (.cells (wcells kind name to_ size ⟨sd, sn, sc⟩) 119)) B ⟨kind, name, to_, size, data⟩ ⟨sd, sn, sc⟩ := dD2.keep fun g o sp e => by
      obtain ⟨_, cs, hb⟩ := dD2.b g o sp e; exact hb2.block g hb.lt
    obtain ⟨r1, r2, r3, r4⟩ := d3.push (x := ⟨kind, name, to_, size, data⟩) (s := ⟨sd, sn, sc⟩) (by
      unfold flatW at ho ⊢
      rw [List.flatMap_append]
      simpa [MW.cells] using ho) kp bb hs dD3 FR.out
    refine ⟨hbd.cell 2, hbd.frozen 2, (show DoE _ _ _ _ _ _ _ _ _ _ _ _ _ _ _ from ⟨rfl, _, _, _, _, _, r1, ?_, (BB.out.trans (hb2.mono hB2)).trans r3, OF.out, fun x s hx hf => r4 x s ((DT.out x s hx hf).keep fun g o sp e => by
      obtain ⟨_, cs, hb⟩ := (DT.out x s hx hf).b g o sp e; exact hb2.block g hb.lt)⟩)⟩
    have f0 : Fp w w2 (FootX (FootD d pF pM KF VF KM VM WD vF vM l) ⟨sd, sn, sc⟩) (FootX (FootD d pF pM KF' VF' KM VM WD vF' vM l) ⟨sd, sn, sc⟩) := ⟨FP.out.sz, fun g hg hn => FP.out.k g hg (fun e => hn (.inl e)), fun g hg hs => by
      rcases hs with hs | hs
      · exact .inl (FP.out.n g hg hs)
      · exact .inr hs⟩
    exact (f0.trans (Fp.of_below hb2 _)).trans r2)
  rw [← hcs] at HSR HOW HFin
  have c2 := d2.b.cell 2
  have b0 := bx2.cell 0
  have b1 := bx2.cell 1
  have b2 := bx2.cell 2
  have b3 := bx2.cell 3
  have b4 := bx2.cell 4
  simp only [List.getElem?_cons_zero, List.getElem?_cons_succ] at c2 b0 b1 b2 b3 b4
  have hbt : (w2.drewN 1).heap.size = w2.heap.size := rfl
  have qa2 : ((w2.drewN 1).alloc (.cells #[.int .i64 kind, .string name, .string to_, .int .i64 size, .slice sd sn sc] 119)).cell? ⟨d, 2, none⟩ = some (.slice WD l.length cW) := cell_alloc (w := w2.drewN 1) c2 _
  have qb2 : (w2.alloc (.cells #[.int .i64 kind, .string name, .string to_, .int .i64 size, .slice sd sn sc] 119)).cell? ⟨d, 2, none⟩ = some (.slice WD l.length cW) := cell_alloc c2 _
  have hB3 : B ≤ ((w2.drewN 1).alloc (.cells #[.int .i64 kind, .string name, .string to_, .int .i64 size, .slice sd sn sc] 119)).heap.size := by simp; omega
  clear d2 dD2 bx2 hb2 hcs hAp FP BB FR OF DT hwl
  go_upto_region 2 with fail
  go_region_law (refine step_append_ownK (o := ⟨some 14, _, _, _, _, _⟩) (by rfl) (.tmp 11) (.tmp 13) 114 114 (by rfl) 119 i0 (.agg #[.int .i64 0, .string ByteArray.empty, .string ByteArray.empty, .int .i64 0, .slice none 0 0]) 5 72 Try.underlying114 hi hz0 hz1 hz2 rfl B WD l.length cW (flatW l) (by simp [Act.eval]) HOW.out (.slice (some ⟨w2.heap.size, 0, none⟩) 1 1) (by simp [Act.eval]) 1 _ HSR.out (by omega) (by omega) _ (Below.refl _ _) hB3 ?_; intro w5 D5 c5 HO5 HK5 hb5 hsz5; obtain ⟨s2, t2, HF5⟩ := HFin.out w5 D5 c5 HO5.out HK5.out hb5 hsz5)
  all_goals
    go_wp2_with fail
    go_end0
    exact HF5.out
end Go.Proofs.Ytbmgeomndfodpaa
