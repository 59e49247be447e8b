/-
  The yard behind a call on its table of files; what a call on the yard leaves as it was.
-/
import Derived.Test.YtbmgeomndfodpaaYardM
namespace Go.Proofs.Ytbmgeomndfodpaa
open Go.RowKit Go.Mem Go.Proofs

/-- the blocks that are the yard's -/
def FootY (pF pT y : Nat) (DK DV DK2 DV2 : Option Addr) (vs : List Fl) (g : Nat) : Prop := g = y ∨ g = pF ∨ g = pT ∨ DK = some ⟨g, 0, none⟩ ∨ DV = some ⟨g, 0, none⟩ ∨ DK2 = some ⟨g, 0, none⟩ ∨ DV2 = some ⟨g, 0, none⟩ ∨ ∃ f ∈ vs, f.d = some ⟨g, 0, none⟩
/-- what is not of S is as it was; what S' has more is new -/
structure Fp (w w' : World) (S S' : Nat → Prop) : Prop where
  sz : w.heap.size ≤ w'.heap.size
  k : ∀ g, g < w.heap.size → ¬ S g → w'.heap[g]? = w.heap[g]?
  n : ∀ g, g < w.heap.size → S' g → S g
theorem Fp.refl (w : World) (S : Nat → Prop) : Fp w w S S := ⟨Nat.le_refl _, fun _ _ _ => rfl, fun _ _ h => h⟩
theorem Fp.of_below {w w' : World} (h : Below w.heap.size w w') (S : Nat → Prop) : Fp w w' S S := ⟨h.size, fun g hg _ => h.block g hg, fun _ _ h => h⟩
theorem Fp.trans {w w' w'' : World} {S S' S'' : Nat → Prop} (h : Fp w w' S S') (k : Fp w' w'' S' S'') : Fp w w'' S S'' :=
  ⟨Nat.le_trans h.sz k.sz, fun g hg hs => (k.k g (Nat.lt_of_lt_of_le hg h.sz) (fun e => hs (h.n g hg e))).trans (h.k g hg hs), fun g hg hs => h.n g hg (k.n g (Nat.lt_of_lt_of_le hg h.sz) hs)⟩
theorem own_blkN {w : World} {B sz : Nat} {e : TypeId} {g n c : Nat} {xs : List Value} (h : OwnB w B e sz (some ⟨g, 0, none⟩) n c xs) : ∃ cs, Blk w g e cs := by
  rcases h.2.2 with ⟨h4, _⟩ | ⟨g', sp, hd, _, hb, _⟩
  · cases h4
  · injection hd with hd; injection hd with hd; subst hd; exact ⟨_, hb⟩
theorem own_keepN {w w' : World} {B sz : Nat} {e : TypeId} {D : Option Addr} {n c : Nat} {xs : List Value} (h : OwnB w B e sz D n c xs) (hk : ∀ g, D = some ⟨g, 0, none⟩ → w'.heap[g]? = w.heap[g]?) : OwnB w' B e sz D n c xs := by
  obtain ⟨h1, h2, h3⟩ := h
  refine ⟨h1, h2, ?_⟩
  rcases h3 with h3 | ⟨g, sp, hd, hg, hb, hc⟩
  · exact .inl h3
  · exact .inr ⟨g, sp, hd, hg, (hk g hd).trans hb, hc⟩
/-- a table of files kept a block of another type -/
theorem kpF {w w' : World} {B pF : Nat} {DK DV : Option Addr} {ks : List Int} {vs : List Fl} (h : TbIF w B pF DK DV ks vs) (kp : Kp w w' pF DK DV) {g : Nat} {t : TypeId} {cs : List Value} (hb : Blk w g t cs) (h1 : t ≠ 124) (h2 : 3 ≠ t) (h3 : 91 ≠ t) : w'.heap[g]? = w.heap[g]? := by
  obtain ⟨_, _, h, _⟩ := h
  exact kp _ hb.lt (hb.ne_ h.b h1) (own_ne_blkN h.k hb h2) (own_ne_blkN h.v hb h3)
/-- the yard in block y, but for the table of files: what its bytes are, and that no two files share them -/
structure Bytes (w : World) (B : Nat) (m : List MF) (vs : List Fl) : Prop where
  own : ∀ (i : Nat) (f : Fl) (x : MF), vs[i]? = some f → m[i]? = some x → f.name = x.name ∧ f.n = x.data.length ∧ OwnB w B 5 1 f.d f.n f.c (x.data.map B8)
  ap : ∀ (i j : Nat) (f g : Fl), i ≠ j → vs[i]? = some f → vs[j]? = some g → ∀ b, f.d = some ⟨b, 0, none⟩ → g.d ≠ some ⟨b, 0, none⟩
theorem Yd.turned {w w' : World} {B y : Nat} {m m' : List MF} {tk : List (Int × Int)} {pF pT : Nat} {DK DV DK2 DV2 : Option Addr} {vs0 vs vs' : List Fl} {v : Value} {e : Ending}
    (hb : Blk w y 95 [.pointer (some ⟨pF, 0, none⟩), .pointer (some ⟨pT, 0, none⟩)]) (hyB : B ≤ y) (hf : TbIF w B pF DK DV (m.map MF.ino) vs) (ht : TbII w B pT DK2 DV2 (tk.map Prod.fst) (tk.map Prod.snd)) (hrt : Tab.Rising ltI (tk.map Prod.fst)) (hkk : ∀ b, DK = some ⟨b, 0, none⟩ → DK2 ≠ some ⟨b, 0, none⟩ ∧ DV2 ≠ some ⟨b, 0, none⟩)
    (he : TEndsIF w B pF DK DV v (m'.map MF.ino) vs' e w') (hr : Tab.Rising ltI (m'.map MF.ino)) (hby : Bytes w B m' vs') (hsub : ∀ f ∈ vs', ∀ g, f.d = some ⟨g, 0, none⟩ → g < w.heap.size → ∃ f0 ∈ vs0, f0.d = some ⟨g, 0, none⟩) :
    e = .returned v ∧ ∃ DK' DV', Yd w' B y m' tk pF pT DK' DV' DK2 DV2 vs' ∧ Fp w w' (FootY pF pT y DK DV DK2 DV2 vs0) (FootY pF pT y DK' DV' DK2 DV2 vs') ∧ Below B w w' := by
  obtain ⟨rfl, DK', DV', hf', kp, nK, nV, bb⟩ := he
  refine ⟨rfl, DK', DV', ⟨?_, hyB, hf', ?_, hr, hrt, fun i f x h1 h2 => ?_, hby.ap, ?_⟩, ⟨bb.size, fun g hg hs => ?_, fun g hg hs => ?_⟩, bb⟩
  · exact (kpF hf kp hb (by decide) (by decide) (by decide)).trans hb
  · obtain ⟨cK, cV, h2, h3⟩ := ht
    refine ⟨cK, cV, h2.keep (kpF hf kp h2.b (by decide) (by decide) (by decide)) (fun g hg => ?_) (fun g hg => ?_), h3⟩
    · obtain ⟨_, _, h, _⟩ := hf
      have hk2 := h2.k
      subst hg
      obtain ⟨cs, hc⟩ := own_blkN hk2
      exact kp _ hc.lt (hc.ne_ h.b (by decide)) (fun e => (hkk g e).1 rfl) (own_ne_blkN h.v hc (by decide))
    · obtain ⟨_, _, h, _⟩ := hf
      have hv2 := h2.v
      subst hg
      obtain ⟨cs, hc⟩ := own_blkN hv2
      exact kp _ hc.lt (hc.ne_ h.b (by decide)) (fun e => (hkk g e).2 rfl) (own_ne_blkN h.v hc (by decide))
  · obtain ⟨a, b, d⟩ := hby.own i f x h1 h2
    refine ⟨a, b, own_keepN d (fun g hg => ?_)⟩
    rw [hg] at d
    obtain ⟨cs, hc⟩ := own_blkN d
    exact kpF hf kp hc (by decide) (by decide) (by decide)
  · intro b hbk
    obtain ⟨_, _, h2, _⟩ := ht
    rcases nK with rfl | ⟨g, h1, h3⟩
    · exact hkk b hbk
    · rw [h1] at hbk; injection hbk with hbk; injection hbk with hbk; subst hbk
      exact ⟨fun e => by have := (own_lt h2.k e).1; omega, fun e => by have := (own_lt h2.v e).1; omega⟩
  · refine kp g hg (fun e => hs ?_) (fun e => hs ?_) (fun e => hs ?_)
    · exact .inr (.inl e)
    · exact .inr (.inr (.inr (.inl e)))
    · exact .inr (.inr (.inr (.inr (.inl e))))
  · rcases hs with h | h | h | h | h | h | h | ⟨f, hf1, hf2⟩
    · exact .inl h
    · exact .inr (.inl h)
    · exact .inr (.inr (.inl h))
    · rcases nK with rfl | ⟨g', h1, h3⟩
      · exact .inr (.inr (.inr (.inl h)))
      · rw [h1] at h; injection h with h; injection h with h; omega
    · rcases nV with rfl | ⟨g', h1, h3⟩
      · exact .inr (.inr (.inr (.inr (.inl h))))
      · rw [h1] at h; injection h with h; injection h with h; omega
    · exact .inr (.inr (.inr (.inr (.inr (.inl h)))))
    · exact .inr (.inr (.inr (.inr (.inr (.inr (.inl h))))))
    · exact .inr (.inr (.inr (.inr (.inr (.inr (.inr (hsub f hf1 g hf2 hg)))))))
/-- the yard, its blocks those of S -/
def YS (w : World) (B y : Nat) (m : List MF) (tk : List (Int × Int)) (S : Nat → Prop) : Prop := ∃ pF pT DK DV DK2 DV2 vs, Yd w B y m tk pF pT DK DV DK2 DV2 vs ∧ S = FootY pF pT y DK DV DK2 DV2 vs
/-- what a call on the yard ends in -/
def YEnds (w : World) (B y : Nat) (v : Value) (m : List MF) (tk : List (Int × Int)) (S : Nat → Prop) (e : Ending) (w' : World) : Prop := e = .returned v ∧ ∃ S', YS w' B y m tk S' ∧ Fp w w' S S' ∧ Below B w w'
theorem YS.below {w w' : World} {B y : Nat} {m : List MF} {tk : List (Int × Int)} {S : Nat → Prop} (h : YS w B y m tk S) (hb : Below w.heap.size w w') : YS w' B y m tk S := by
  obtain ⟨a1, a2, a3, a4, a5, a6, a7, h, rfl⟩ := h
  exact ⟨a1, a2, a3, a4, a5, a6, a7, h.below hb, rfl⟩
/-- nothing of the yard has turned -/
theorem YS.keep {w w' : World} {B y : Nat} {m : List MF} {tk : List (Int × Int)} {S : Nat → Prop} (h : YS w B y m tk S) (hk : ∀ g, g < w.heap.size → S g → w'.heap[g]? = w.heap[g]?) : YS w' B y m tk S := by
  obtain ⟨pF, pT, DK, DV, DK2, DV2, vs, h, rfl⟩ := h
  refine ⟨pF, pT, DK, DV, DK2, DV2, vs, ⟨(hk y h.b.lt (.inl rfl)).trans h.b, h.yB, ?_, ?_, h.rf, h.rt, fun i f x h1 h2 => ?_, h.ap, h.kk⟩, rfl⟩
  · obtain ⟨c1, c2, h2, h3⟩ := h.f
    exact ⟨c1, c2, h2.keep (hk pF h2.b.lt (.inr (.inl rfl))) (fun g hg => hk g (own_ltN h2.k hg).1 (.inr (.inr (.inr (.inl hg))))) (fun g hg => hk g (own_ltN h2.v hg).1 (.inr (.inr (.inr (.inr (.inl hg)))))), h3⟩
  · obtain ⟨c1, c2, h2, h3⟩ := h.t
    exact ⟨c1, c2, h2.keep (hk pT h2.b.lt (.inr (.inr (.inl rfl)))) (fun g hg => hk g (own_lt h2.k hg).1 (.inr (.inr (.inr (.inr (.inr (.inl hg))))))) (fun g hg => hk g (own_lt h2.v hg).1 (.inr (.inr (.inr (.inr (.inr (.inr (.inl hg)))))))), h3⟩
  · obtain ⟨a, b, d⟩ := h.own i f x h1 h2
    exact ⟨a, b, own_keepN d (fun g hg => hk g (own_ltN d hg).1 (.inr (.inr (.inr (.inr (.inr (.inr (.inr ⟨f, List.mem_of_getElem? h1, hg⟩))))))))⟩
theorem YS.lt {w : World} {B y : Nat} {m : List MF} {tk : List (Int × Int)} {S : Nat → Prop} (h : YS w B y m tk S) : ∀ g, S g → B ≤ g ∧ g < w.heap.size := by
  obtain ⟨pF, pT, DK, DV, DK2, DV2, vs, h, rfl⟩ := h
  obtain ⟨_, _, h2, hl⟩ := h.f
  obtain ⟨_, _, h3, _⟩ := h.t
  intro g hg
  rcases hg with rfl | rfl | rfl | hg | hg | hg | hg | ⟨f, hf1, hf2⟩
  · exact ⟨h.yB, h.b.lt⟩
  · exact ⟨h2.pB, h2.b.lt⟩
  · exact ⟨h3.pB, h3.b.lt⟩
  · exact (own_ltN h2.k hg).symm
  · exact (own_ltN h2.v hg).symm
  · exact (own_lt h3.k hg).symm
  · exact (own_lt h3.v hg).symm
  · obtain ⟨i, hi⟩ := List.mem_iff_getElem?.1 hf1
    have hlt := (List.getElem?_eq_some_iff.1 hi).1
    rw [List.length_map] at hl
    exact (own_ltN (h.own i f m[i] hi (by simp)).2.2 hf2).symm
end Go.Proofs.Ytbmgeomndfodpaa
