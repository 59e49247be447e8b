/-
  The contracts of disk's Mark and New; the files of the last mark again.
-/
import Derived.Test.YtbmgeomndfodpaaDiskT
namespace Go.Proofs.Ytbmgeomndfodpaa
open Go.RowKit Go.Mem Go.Proofs

section
variable {w w' w1 : World} {B d K N : Nat} {M F : FS} {l : List (MW × Sb)} {W : List MW} {S : Nat → Prop} {pF pM p' : Nat} {KF VF KM VM WD D V : Option Addr} {cW : Nat} {vF vM vs : List Sb}
theorem TbSL.blks {ks : List ByteArray} (h : TbSL w B pF KF VF ks vs) : (∃ cs, Blk w pF 134 cs) ∧ (∀ g, KF = some ⟨g, 0, none⟩ → ∃ cs, Blk w g 9 cs) ∧ (∀ g, VF = some ⟨g, 0, none⟩ → ∃ cs, Blk w g 27 cs) := by
  obtain ⟨a, b, h1, h2⟩ := h
  refine ⟨⟨_, h1.b⟩, fun g hg => ?_, fun g hg => ?_⟩
  · have hk := h1.k
    rw [hg] at hk; exact own_blkN hk
  · have hk := h1.v
    rw [hg] at hk; exact own_blkN hk
/-- a copy of a table holds the files -/
theorem FT.copied (h : FT w B pF KF VF F vs) (hb : Below w.heap.size w w1) (tb : TbSL w1 w.heap.size p' D V (F.map Prod.fst) vs) (hB : B ≤ w.heap.size) : FT w1 B p' D V F vs :=
  ⟨tb.mono hB, h.r, (h.below hb).vw, h.ap⟩
/-- a cell of the disk's block is written: the files stay -/
theorem FT.setD (h : FT w B pF KF VF F vs) {cs : List Value} (hd : Blk w d 116 cs) (i : Nat) (u : Value) : FT (w.setCell ⟨d, i, none⟩ u) B pF KF VF F vs := by
  have typ : ∀ {g : Nat} {t : TypeId} {cs' : List Value}, Blk w g t cs' → t ≠ 116 → (w.setCell ⟨d, i, none⟩ u).heap[g]? = w.heap[g]? := fun {g t cs'} hb ht => Below.heap_setCell w ⟨d, i, none⟩ u g (hb.ne_ hd ht)
  obtain ⟨_, bF⟩ := h.blk
  refine h.keep (typ bF (by decide)) (fun g _ hg => ?_) (fun g _ hg => ?_) (fun s _ bs _ hv => hv.keep fun g hg => ?_)
  · obtain ⟨_, b⟩ := h.blkK hg; exact typ b (by decide)
  · obtain ⟨_, b⟩ := h.blkV hg; exact typ b (by decide)
  · obtain ⟨_, b⟩ := hv.blk hg; exact typ b (by decide)
/-- the same slices beside themselves -/
theorem FT.self (h : FT w B pF KF VF F vs) : ∀ s ∈ vs, ∀ t ∈ vs, ∀ g, s.d = some ⟨g, 0, none⟩ → t.d = some ⟨g, 0, none⟩ → s.c = s.n ∨ t.n ≤ s.n := fun s hs t ht g h1 h2 => by
  obtain ⟨i, hi⟩ := List.mem_iff_getElem?.1 hs
  obtain ⟨j, hj⟩ := List.mem_iff_getElem?.1 ht
  by_cases e : i = j
  · subst e; rw [hi] at hj; injection hj with hj; subst hj; exact .inr (Nat.le_refl _)
  · exact absurd h2 (h.ap i j s t e hi hj g h1)
/-- what Mark ends in -/
def MkE (w : World) (B d pF : Nat) (KF VF : Option Addr) (F : FS) (vF : List Sb) (e : Ending) (w' : World) : Prop := e = .returned (.tuple #[]) ∧ ∃ p' D V, DD w' B d F F [] pF p' KF VF D V none 0 vF vF ∧ w.heap.size ≤ p' ∧ (∀ g, D = some ⟨g, 0, none⟩ → w.heap.size ≤ g) ∧ (∀ g, V = some ⟨g, 0, none⟩ → w.heap.size ≤ g) ∧ (∀ g, g < w.heap.size → g ≠ d → w'.heap[g]? = w.heap[g]?) ∧ Below B w w'
set_option maxRecDepth 100000 in
set_option maxHeartbeats 1600000 in
theorem mark_half {c1 c2 : Value} (hb : Blk w d 116 [.pointer (some ⟨pF, 0, none⟩), c1, c2]) (hdB : B ≤ d) (f : FT w B pF KF VF F vF) (hn : F.length ≤ 100000) (hB : B ≤ w.heap.size) : Calls Try.prog 41 #[.pointer (some ⟨d, 0, none⟩)] w (MkE w B d pF KF VF F vF) := by
  have c0 := hb.cell 0
  simp only [List.getElem?_cons_zero] at c0
  have HC : Hid (Calls Try.prog 71 #[.pointer (some ⟨pF, 0, none⟩)] w fun e w1 => ∃ p', e = .returned (.pointer (some ⟨p', 0, none⟩)) ∧ Hid (Blk w1 d 116 [.pointer (some ⟨pF, 0, none⟩), c1, c2]) ∧ Hid (MkE w B d pF KF VF F vF (.returned (.tuple #[])) ((w1.setCell ⟨d, 1, none⟩ (.pointer (some ⟨p', 0, none⟩))).setCell ⟨d, 2, none⟩ (.slice none 0 0)))) := (show Calls _ _ _ _ _ from by
    refine (copySL_calls B pF KF VF _ vF w f.tb (by rw [List.length_map]; omega)).mono ?_
    rintro e w1 ⟨p', D, V, rfl, tb, b1⟩
    have hb1 := hb.below b1 hb.lt
    have f1 := f.below b1
    have m1 := f.copied b1 tb hB
    have hb2 := hb1.set_ 1 (.pointer (some ⟨p', 0, none⟩))
    have hb3 := hb2.set_ 2 (.slice none 0 0)
    simp only [List.set_cons_zero, List.set_cons_succ] at hb2 hb3
    have f2 := f1.setD hb1 1 (.pointer (some ⟨p', 0, none⟩))
    have m2 := m1.setD hb1 1 (.pointer (some ⟨p', 0, none⟩))
    have f3 := f2.setD hb2 2 (.slice none 0 0)
    have m3 := m2.setD hb2 2 (.slice none 0 0)
    obtain ⟨a, b, q1, q2⟩ := tb
    have hp' : w.heap.size ≤ p' := q1.pB
    have hD : ∀ g, D = some ⟨g, 0, none⟩ → w.heap.size ≤ g := fun g hg => (own_lt q1.k hg).2
    have hV : ∀ g, V = some ⟨g, 0, none⟩ → w.heap.size ≤ g := fun g hg => (own_lt q1.v hg).2
    refine ⟨p', rfl, hb1, (show MkE _ _ _ _ _ _ _ _ _ _ from ⟨rfl, p', D, V, ⟨hb3, hdB, f3, m3, OwnB.nil _ _ _ _, by simp, f.self, by simp, ?_, ?_, ?_⟩, hp', hD, hV, fun g hg hne => ?_, ?_⟩)⟩
    · have := f.lt.1; omega
    · intro g hg e; have := (f.ltK hg).1; have := hD g e; omega
    · intro g hg e; have := (f.ltV hg).1; have := hV g e; omega
    · exact (Below.heap_setCell _ ⟨d, 2, none⟩ _ g hne).trans ((Below.heap_setCell _ ⟨d, 1, none⟩ _ g hne).trans (b1.block g hg))
    · exact ((b1.mono hB).setCell (p := ⟨d, 1, none⟩) hdB _).setCell (p := ⟨d, 2, none⟩) hdB _)
  clear f hb
  go_enter Try.func41, Try.ntmps41
  go_wp2_with fail
  refine HC.out.mono ?_
  rintro e w1 ⟨p', rfl, hb1, HFin⟩
  have d0 := hb1.out.cell 0
  have d1 := hb1.out.cell 1
  have d2 := hb1.out.cell 2
  have q1 := hb1.out.frozen 1
  have q2 := hb1.out.frozen 2
  simp only [List.getElem?_cons_zero, List.getElem?_cons_succ] at d0 d1 d2
  have hb2 := hb1.out.set_ 1 (.pointer (some ⟨p', 0, none⟩))
  have r2 := hb2.cell 2
  have z2 := hb2.frozen 2
  simp only [List.set_cons_zero, List.set_cons_succ, List.getElem?_cons_zero, List.getElem?_cons_succ] at r2
  clear c0 HC
  go_wp2_with fail
  go_end0
  exact HFin.out
theorem MkE.de {e : Ending} (h : MkE w B d pF KF VF F vF e w') (hg : GD K 0 F []) (hB : B ≤ w.heap.size) : DE K 0 w B d (.tuple #[]) F [] (FootD d pF pM KF VF KM VM WD vF vM l) e w' := by
  obtain ⟨rfl, p', D, V, d2, hp, hD, hV, hk, hb⟩ := h
  refine ⟨rfl, _, ⟨⟨[], pF, p', KF, VF, D, V, none, 0, vF, vF, rfl, d2, rfl⟩, hg, Nat.le_trans hB hb.size⟩, ⟨hb.size, fun g hg hn => hk g hg (fun e => hn (.inl e)), fun g hg hs => ?_⟩, hb⟩
  rcases hs with e | e | e | e | e | e | e | e | ⟨s, hs, e⟩ | ⟨x, hx, _⟩
  · exact .inl e
  · exact .inr (.inl e)
  · omega
  · exact .inr (.inr (.inr (.inl e)))
  · exact .inr (.inr (.inr (.inr (.inl e))))
  · have := hD g e; omega
  · have := hV g e; omega
  · cases e
  · refine .inr (.inr (.inr (.inr (.inr (.inr (.inr (.inr (.inl ⟨s, .inl ?_, e⟩))))))))
    rcases hs with hs | hs <;> exact hs
  · cases hx
theorem mark_calls (h : DV K N w B d M W S) (hK : K ≤ 90000) : Calls Try.prog 41 #[.pointer (some ⟨d, 0, none⟩)] w (DE K 0 w B d (.tuple #[]) (replay M W) [] S) := by
  obtain ⟨⟨l, pF, pM, KF, VF, KM, VM, WD, cW, vF, vM, he, dd, rfl⟩, hg, hB⟩ := h
  have hF := hg.now
  exact (mark_half dd.b dd.dB dd.f (by omega) hB).mono fun e w' hE => hE.de hg.mark hB
set_option maxRecDepth 100000 in
set_option maxHeartbeats 1600000 in
theorem dnew_calls (w : World) : Calls Try.prog 33 #[] w fun e w' => ∃ d S, e = .returned (.pointer (some ⟨d, 0, none⟩)) ∧ DV 0 0 w' w.heap.size d [] [] S ∧ Below w.heap.size w w' := by
  have HN := Lib.hid (newSL_calls w)
  go_enter Try.func33, Try.ntmps33
  go_wp2_with fail
  refine HN.out.mono ?_
  rintro e w1 ⟨rfl, tb, b1⟩
  have f1 : FT w1 w.heap.size w.heap.size none none [] [] := ⟨tb, List.Pairwise.nil, fun i s x h => by simp at h, fun i j s t _ h => by simp at h⟩
  have hal := (Below.refl w1.heap.size w1).alloc (Nat.le_refl _) (.cells #[.pointer (some ⟨w.heap.size, 0, none⟩), .pointer none, .slice none 0 0] 116)
  have hbd := Blk.new w1 116 #[.pointer (some ⟨w.heap.size, 0, none⟩), .pointer none, .slice none 0 0]
  have HM : Hid (Calls Try.prog 41 #[.pointer (some ⟨w1.heap.size, 0, none⟩)] (w1.alloc (.cells #[.pointer (some ⟨w.heap.size, 0, none⟩), .pointer none, .slice none 0 0] 116)) fun e w2 => e = .returned (.tuple #[]) ∧ Hid (∃ S, DV 0 0 w2 w.heap.size w1.heap.size [] [] S ∧ Below w.heap.size w w2)) := (show Calls _ _ _ _ _ from by
    refine (mark_half (B := w.heap.size) hbd b1.size (f1.below hal) (by simp) (Nat.le_trans b1.size hal.size)).mono ?_
    rintro e w2 ⟨rfl, p', D, V, d2, hp, hD, hV, hk, hb⟩
    have hbb := (b1.trans (hal.mono b1.size)).trans hb
    exact ⟨rfl, (show ∃ S, _ from ⟨_, ⟨⟨[], _, _, _, _, _, _, _, _, _, _, rfl, d2, rfl⟩, GD.nil, hbb.size⟩, hbb⟩)⟩)
  clear HN tb f1 hal hbd b1
  go_wp2_with fail
  refine HM.out.mono ?_
  rintro e w2 ⟨rfl, HF⟩
  go_wp2_with fail
  go_ret
  obtain ⟨S, h1, h2⟩ := HF.out
  exact ⟨_, S, rfl, h1, h2⟩
end
end Go.Proofs.Ytbmgeomndfodpaa
