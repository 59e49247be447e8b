/-
  The disk's state: two tables, raw writes in between.
-/
import Derived.Test.YtbmgeomndfodpaaDiskA2
import Derived.Test.YtbmgeomndfodpaaFlat
namespace Go.Proofs.Ytbmgeomndfodpaa
open Go.RowKit Go.Mem Go.Proofs

/-- a raw write -/
structure MW where
  kind : Nat
  name : ByteArray
  to_ : ByteArray
  size : Nat
  data : List UInt8
/-- the files behind it -/
def MW.app (x : MW) (F : FS) : FS :=
  if x.kind = 0 then setF x.name [] F else if x.kind = 1 then setF x.name (bytesF x.name F ++ x.data) F else if x.kind = 2 then setF x.to_ (bytesF x.name F) (delF x.name F) else if x.kind = 3 then setF x.name ((bytesF x.name F).take x.size) F else delF x.name F
def replay (M : FS) (W : List MW) : FS := W.foldl (fun F x => x.app F) M
/-- can it be done? -/
structure MW.ok (x : MW) (F : FS) : Prop where
  k : x.kind ≤ 4
  d : x.kind = 1 → 1 ≤ x.data.length ∧ (bytesF x.name F).length + x.data.length ≤ 100000000
  n : x.kind = 3 → x.size ≤ (bytesF x.name F).length
theorem replay_app (M : FS) (W : List MW) (x : MW) : replay M (W ++ [x]) = x.app (replay M W) := by unfold replay; rw [List.foldl_append]; rfl
theorem MW.app_len (x : MW) (F : FS) : (x.app F).length ≤ F.length + 1 := by
  unfold MW.app
  have h1 := setF_len x.to_ (bytesF x.name F) (delF x.name F)
  have h2 := delF_len x.name F
  repeat' split
  all_goals first
    | exact setF_len _ _ _
    | omega
theorem replay_len (M : FS) (W : List MW) : (replay M W).length ≤ M.length + W.length := by
  induction W generalizing M with
  | nil => exact Nat.le_refl _
  | cons x W ih =>
    have h1 : replay M (x :: W) = replay (x.app M) W := rfl
    have h2 := ih (x.app M)
    have h3 := x.app_len M
    rw [h1, List.length_cons]; omega
theorem MW.app_rise (x : MW) {F : FS} (hr : Tab.Rising ltS (F.map Prod.fst)) : Tab.Rising ltS ((x.app F).map Prod.fst) := by
  unfold MW.app
  repeat' split
  · exact rise_set hr
  · exact rise_set hr
  · exact rise_set (rise_del hr)
  · exact rise_set hr
  · exact rise_del hr
theorem replay_rise {M : FS} (hr : Tab.Rising ltS (M.map Prod.fst)) (W : List MW) : Tab.Rising ltS ((replay M W).map Prod.fst) := by
  induction W generalizing M with
  | nil => exact hr
  | cons x W ih => exact ih (x.app_rise hr)
def MW.cells (x : MW) (s : Sb) : Array Value := wcells x.kind x.name x.to_ x.size s
theorem apply_calls {w : World} {B p d : Nat} {DK DV : Option Addr} {F : FS} {vs : List Sb} {c1 c2 : Value} (h : FT w B p DK DV F vs) (hd : Blk w d 116 [.pointer (some ⟨p, 0, none⟩), c1, c2]) (x : MW) (s : Sb) (hx : x.ok F) (hl : s.n = x.data.length) (hs : Sl w s.d (x.data.map B8)) (hn : F.length ≤ 90000) (hBw : B ≤ w.heap.size) :
    Calls Try.prog 72 #[.pointer (some ⟨d, 0, none⟩), .agg (x.cells s)] w (ApE w B p DK DV vs (x.app F)) := by
  obtain ⟨kind, name, to_, size, data⟩ := x
  unfold MW.cells MW.app
  have hk := hx.k
  simp only at hk hl hs ⊢
  match kind, hk with
  | 0, _ => exact apply_create h hd name to_ size s (by omega) hBw
  | 1, _ =>
    obtain ⟨h1, h2⟩ := hx.d rfl
    simp only at h1 h2
    exact apply_grow h hd name to_ size s data hl.symm (by omega) hs (by omega) hn hBw
  | 2, _ => exact apply_rename h hd name to_ size s hn hBw
  | 3, _ => exact apply_cut h hd name to_ size s (hx.n rfl) hn hBw
  | 4, _ => exact apply_remove h hd name to_ size s hn hBw
/-- the writes' cells, one behind the other -/
def flatW (l : List (MW × Sb)) : List Value := l.flatMap fun x => (x.1.cells x.2).toList
theorem flatW_len (l : List (MW × Sb)) : (flatW l).length = l.length * 5 := flat_len (F := fun x : MW × Sb => (x.1.cells x.2).toList) (m := 5) (fun _ => rfl) l
/-- a write's bytes -/
structure Dat (w : World) (B : Nat) (x : MW) (s : Sb) : Prop where
  n : s.n = x.data.length
  sl : Sl w s.d (x.data.map B8)
  b : ∀ g o sp, s.d = some ⟨g, o, sp⟩ → B ≤ g ∧ ∃ cs, Blk w g 5 cs
structure DD (w : World) (B d : Nat) (M F : FS) (l : List (MW × Sb)) (pF pM : Nat) (KF VF KM VM WD : Option Addr) (cW : Nat) (vF vM : List Sb) : Prop where
  b : Blk w d 116 [.pointer (some ⟨pF, 0, none⟩), .pointer (some ⟨pM, 0, none⟩), .slice WD l.length cW]
  dB : B ≤ d
  f : FT w B pF KF VF F vF
  m : FT w B pM KM VM M vM
  ws : OwnB w B 119 5 WD l.length cW (flatW l)
  wd : ∀ x ∈ l, Dat w B x.1 x.2
  sh : ∀ s ∈ vF, ∀ t ∈ vM, ∀ g, s.d = some ⟨g, 0, none⟩ → t.d = some ⟨g, 0, none⟩ → s.c = s.n ∨ t.n ≤ s.n
  wf : ∀ x ∈ l, ∀ s, s ∈ vF ∨ s ∈ vM → ∀ g o sp, x.2.d = some ⟨g, o, sp⟩ → s.d ≠ some ⟨g, 0, none⟩
  pp : pF ≠ pM
  kk : ∀ g, KF = some ⟨g, 0, none⟩ → KM ≠ some ⟨g, 0, none⟩
  vv : ∀ g, VF = some ⟨g, 0, none⟩ → VM ≠ some ⟨g, 0, none⟩
/-- the disk's blocks -/
def FootD (d pF pM : Nat) (KF VF KM VM WD : Option Addr) (vF vM : List Sb) (l : List (MW × Sb)) (g : Nat) : Prop := g = d ∨ g = pF ∨ g = pM ∨ KF = some ⟨g, 0, none⟩ ∨ VF = some ⟨g, 0, none⟩ ∨ KM = some ⟨g, 0, none⟩ ∨ VM = some ⟨g, 0, none⟩ ∨ WD = some ⟨g, 0, none⟩ ∨ (∃ s, (s ∈ vF ∨ s ∈ vM) ∧ s.d = some ⟨g, 0, none⟩) ∨ ∃ x ∈ l, ∃ o sp, x.2.d = some ⟨g, o, sp⟩
section
variable {w w' : World} {B d : Nat} {M F F' : FS} {l : List (MW × Sb)} {pF pM : Nat} {KF VF KM VM WD : Option Addr} {cW : Nat} {vF vM : List Sb}
theorem Dat.keep {x : MW} {s : Sb} (h : Dat w B x s) (hk : ∀ g o sp, s.d = some ⟨g, o, sp⟩ → w'.heap[g]? = w.heap[g]?) : Dat w' B x s :=
  ⟨h.n, fun k v hv => by
    obtain ⟨b, o, e, hc⟩ := h.sl k v hv
    exact ⟨b, o, e, (World.cell?_of_block (a := ⟨b, o + k, none⟩) (hk b o none e)).trans hc⟩, fun g o sp e => by
    obtain ⟨h1, cs, h2⟩ := h.b g o sp e
    exact ⟨h1, cs, (hk g o sp e).trans h2⟩⟩
/-- nothing of the disk has turned -/
theorem DD.keep (h : DD w B d M F l pF pM KF VF KM VM WD cW vF vM) (hk : ∀ g, g < w.heap.size → FootD d pF pM KF VF KM VM WD vF vM l g → w'.heap[g]? = w.heap[g]?) : DD w' B d M F l pF pM KF VF KM VM WD cW vF vM := by
  have k1 := hk d h.b.lt (.inl rfl)
  have kF := hk pF h.f.lt.1 (.inr (.inl rfl))
  have kM := hk pM h.m.lt.1 (.inr (.inr (.inl rfl)))
  have vw : ∀ s, s ∈ vF ∨ s ∈ vM → ∀ (bs : List UInt8), s.n = bs.length → Vw w B 5 1 s.d s.n s.c (bs.map B8) → Vw w' B 5 1 s.d s.n s.c (bs.map B8) := fun s hs bs _ hv => hv.keep fun g hg => hk g (hv.lt hg).1 (.inr (.inr (.inr (.inr (.inr (.inr (.inr (.inr (.inl ⟨s, hs, hg⟩)))))))))
  refine ⟨k1.trans h.b, h.dB, h.f.keep kF (fun g hl hg => hk g hl (.inr (.inr (.inr (.inl hg))))) (fun g hl hg => hk g hl (.inr (.inr (.inr (.inr (.inl hg)))))) (fun s hs => vw s (.inl hs)), h.m.keep kM (fun g hl hg => hk g hl (.inr (.inr (.inr (.inr (.inr (.inl hg))))))) (fun g hl hg => hk g hl (.inr (.inr (.inr (.inr (.inr (.inr (.inl hg)))))))) (fun s hs => vw s (.inr hs)), own_keepN h.ws (fun g hg => hk g (own_ltN h.ws hg).1 (.inr (.inr (.inr (.inr (.inr (.inr (.inr (.inl hg))))))))), fun x hx => (h.wd x hx).keep fun g o sp e => ?_, h.sh, h.wf, h.pp, h.kk, h.vv⟩
  obtain ⟨_, cs, hb⟩ := (h.wd x hx).b g o sp e
  exact hk g hb.lt (.inr (.inr (.inr (.inr (.inr (.inr (.inr (.inr (.inr ⟨x, hx, o, sp, e⟩)))))))))
theorem DD.below (h : DD w B d M F l pF pM KF VF KM VM WD cW vF vM) (hb : Below w.heap.size w w') : DD w' B d M F l pF pM KF VF KM VM WD cW vF vM := h.keep fun g hg _ => hb.block g hg
theorem DD.lt (h : DD w B d M F l pF pM KF VF KM VM WD cW vF vM) {g : Nat} (hg : FootD d pF pM KF VF KM VM WD vF vM l g) : B ≤ g ∧ g < w.heap.size := by
  rcases hg with rfl | rfl | rfl | hg | hg | hg | hg | hg | ⟨s, hs, hg⟩ | ⟨x, hx, o, sp, e⟩
  · exact ⟨h.dB, h.b.lt⟩
  · exact h.f.lt.symm
  · exact h.m.lt.symm
  · exact (h.f.ltK hg).symm
  · exact (h.f.ltV hg).symm
  · exact (h.m.ltK hg).symm
  · exact (h.m.ltV hg).symm
  · exact (own_ltN h.ws hg).symm
  · rcases hs with hs | hs
    · obtain ⟨_, _, _, hv⟩ := h.f.view hs; exact (hv.lt hg).symm
    · obtain ⟨_, _, _, hv⟩ := h.m.view hs; exact (hv.lt hg).symm
  · obtain ⟨h1, cs, hb⟩ := (h.wd x hx).b g o sp e; exact ⟨h1, hb.lt⟩
/-- behind a raw write on the files -/
theorem DD.app (h : DD w B d M F l pF pM KF VF KM VM WD cW vF vM) {e : Ending} (he : ApE w B pF KF VF vF F' e w') :
    e = .returned (.tuple #[]) ∧ ∃ KF' VF' vF', DD w' B d M F' l pF pM KF' VF' KM VM WD cW vF' vM ∧ Fp w w' (FootD d pF pM KF VF KM VM WD vF vM l) (FootD d pF pM KF' VF' KM VM WD vF' vM l) ∧ Below B w w' ∧ (∀ t ∈ vF', Off w vF t) ∧ ∀ (x : MW) (s : Sb), Dat w B x s → (∀ t ∈ vF, ∀ g o sp, s.d = some ⟨g, o, sp⟩ → t.d ≠ some ⟨g, 0, none⟩) → Dat w' B x s := by
  obtain ⟨rfl, KF', VF', vF', X, m, f', off, hX, mid⟩ := he
  refine ⟨rfl, KF', VF', vF', ?_⟩
  -- X's block
  have hXb : ∀ g, X = some ⟨g, 0, none⟩ → ∃ cs, Blk w g 5 cs := fun g hg => by
    rcases hX with rfl | ⟨s, hs, rfl, _, _⟩
    · cases hg
    · obtain ⟨bs, _, _, hv⟩ := h.f.view hs; exact hv.blk hg
  have typ : ∀ {g : Nat} {t u : TypeId} {cs cs' : List Value}, Blk w g t cs → Blk w g u cs' → t = u := fun {g t u cs cs'} h1 h2 => by
    unfold Blk at h1 h2
    rw [h1] at h2
    injection h2 with h2; injection h2
  obtain ⟨cF, hbF⟩ := h.f.blk
  -- a block by its type
  have keepT : ∀ {g : Nat} {t : TypeId} {cs : List Value}, Blk w g t cs → g ≠ pF → (t = 9 → KF ≠ some ⟨g, 0, none⟩) → (t = 27 → VF ≠ some ⟨g, 0, none⟩) → (t = 5 → X ≠ some ⟨g, 0, none⟩) → w'.heap[g]? = w.heap[g]? := fun {g t cs} hb hp hK hV hU => mid.k g hb.lt hp
    (fun e => by obtain ⟨cs', hb'⟩ := h.f.blkK e; exact hK (typ hb hb') e)
    (fun e => by obtain ⟨cs', hb'⟩ := h.f.blkV e; exact hV (typ hb hb') e)
    (fun e => by obtain ⟨cs', hb'⟩ := hXb g e; exact hU (typ hb hb') e)
  have neF : ∀ {g : Nat} {t : TypeId} {cs : List Value}, Blk w g t cs → t ≠ 134 → g ≠ pF := fun {g t cs} hb ht e => by subst e; exact ht (typ hb hbF)
  obtain ⟨cM, hbM⟩ := h.m.blk
  have kd : w'.heap[d]? = w.heap[d]? := keepT h.b (neF h.b (by decide)) (fun e => by cases e) (fun e => by cases e) (fun e => by cases e)
  refine ⟨⟨kd.trans h.b, h.dB, f', ?_, ?_, fun x hx => (h.wd x hx).keep fun g o sp e => ?_, fun s hs t ht g h1 h2 => ?_, fun x hx s hs g o sp e h1 => ?_, h.pp, fun g hg => ?_, fun g hg => ?_⟩, ⟨mid.sz, fun g hg hs => ?_, fun g hg hs => ?_⟩, mid.bb, off, fun x s hD hfr => hD.keep fun g o sp e => ?_⟩
  · refine h.m.keep (keepT hbM (fun e => h.pp e.symm) (fun e => by cases e) (fun e => by cases e) (fun e => by cases e)) (fun g _ hg => ?_) (fun g _ hg => ?_) (fun t ht bs hl hv => ?_)
    · obtain ⟨cs, hb⟩ := h.m.blkK hg
      exact keepT hb (neF hb (by decide)) (fun _ e => h.kk g e hg) (fun e => by cases e) (fun e => by cases e)
    · obtain ⟨cs, hb⟩ := h.m.blkV hg
      exact keepT hb (neF hb (by decide)) (fun e => by cases e) (fun _ e => h.vv g e hg) (fun e => by cases e)
    · by_cases hXe : ∃ g, t.d = some ⟨g, 0, none⟩ ∧ X = some ⟨g, 0, none⟩
      · obtain ⟨g, hg, hx⟩ := hXe
        rcases hX with rfl | ⟨s, hs, rfl, rfl, hc⟩
        · cases hx
        · have := h.sh s hs t ht g hx hg
          refine hv.head (m := s.n) ?_ (by omega)
          have := mid.hd
          rw [hx] at this
          rw [hg]; exact this
      · refine hv.keep fun g hg => ?_
        obtain ⟨cs, hb⟩ := hv.blk hg
        exact keepT hb (neF hb (by decide)) (fun e => by cases e) (fun e => by cases e) (fun _ e => hXe ⟨g, hg, e⟩)
  · refine own_keepN h.ws fun g hg => ?_
    have hw := h.ws
    rw [hg] at hw
    obtain ⟨cs, hb⟩ := own_blkN hw
    exact keepT hb (neF hb (by decide)) (fun e => by cases e) (fun e => by cases e) (fun e => by cases e)
  · obtain ⟨_, cs, hb⟩ := (h.wd x hx).b g o sp e
    refine keepT hb (neF hb (by decide)) (fun e => by cases e) (fun e => by cases e) (fun _ e2 => ?_)
    rcases hX with rfl | ⟨s, hs, rfl, _, _⟩
    · cases e2
    · exact h.wf x hx s (.inl hs) g o sp e e2
  · have hg : g < w.heap.size := by obtain ⟨_, _, _, hv⟩ := h.m.view ht; exact (hv.lt h2).1
    rcases off s hs with a | a | ⟨g', a, b⟩ | ⟨s0, hs0, a, b⟩
    · exact h.sh s a t ht g h1 h2
    · rw [a] at h1; cases h1
    · rw [a] at h1; injection h1 with h1; injection h1 with h1; omega
    · have := h.sh s0 hs0 t ht g (by rw [← a]; exact h1) h2
      omega
  · obtain ⟨_, cs, hb⟩ := (h.wd x hx).b g o sp e
    rcases hs with hs | hs
    · rcases off s hs with a | a | ⟨g', a, b⟩ | ⟨s0, hs0, a, b⟩
      · exact h.wf x hx s (.inl a) g o sp e h1
      · rw [a] at h1; cases h1
      · rw [a] at h1; injection h1 with h1; injection h1 with h1; have := hb.lt; omega
      · exact h.wf x hx s0 (.inl hs0) g o sp e (by rw [← a]; exact h1)
    · exact h.wf x hx s (.inr hs) g o sp e h1
  · rcases mid.nk with rfl | ⟨g', a, b⟩
    · exact h.kk g hg
    · intro e
      rw [a] at hg; injection hg with hg; injection hg with hg
      have := (h.m.ltK e).1; omega
  · rcases mid.nv with rfl | ⟨g', a, b⟩
    · exact h.vv g hg
    · intro e
      rw [a] at hg; injection hg with hg; injection hg with hg
      have := (h.m.ltV e).1; omega
  · refine mid.k g hg (fun e => hs (.inr (.inl e))) (fun e => hs (.inr (.inr (.inr (.inl e))))) (fun e => hs (.inr (.inr (.inr (.inr (.inl e)))))) (fun e => ?_)
    rcases hX with rfl | ⟨s, hs0, rfl, _, _⟩
    · cases e
    · exact hs (.inr (.inr (.inr (.inr (.inr (.inr (.inr (.inr (.inl ⟨s, .inl hs0, e⟩)))))))))
  · rcases hs with e | e | e | e | e | e | e | e | ⟨s, hs, e⟩ | e
    · exact .inl e
    · exact .inr (.inl e)
    · exact .inr (.inr (.inl e))
    · rcases mid.nk with rfl | ⟨g', a, b⟩
      · exact .inr (.inr (.inr (.inl e)))
      · rw [a] at e; injection e with e; injection e with e; omega
    · rcases mid.nv with rfl | ⟨g', a, b⟩
      · exact .inr (.inr (.inr (.inr (.inl e))))
      · rw [a] at e; injection e with e; injection e with e; omega
    · exact .inr (.inr (.inr (.inr (.inr (.inl e)))))
    · exact .inr (.inr (.inr (.inr (.inr (.inr (.inl e))))))
    · exact .inr (.inr (.inr (.inr (.inr (.inr (.inr (.inl e)))))))
    · refine .inr (.inr (.inr (.inr (.inr (.inr (.inr (.inr (.inl ?_))))))))
      rcases hs with hs | hs
      · rcases off s hs with a | a | ⟨g', a, b⟩ | ⟨s0, hs0, a, b⟩
        · exact ⟨s, .inl a, e⟩
        · rw [a] at e; cases e
        · rw [a] at e; injection e with e; injection e with e; omega
        · exact ⟨s0, .inl hs0, by rw [← a]; exact e⟩
      · exact ⟨s, .inr hs, e⟩
    · exact .inr (.inr (.inr (.inr (.inr (.inr (.inr (.inr (.inr e))))))))
  · obtain ⟨_, cs, hb⟩ := hD.b g o sp e
    refine keepT hb (neF hb (by decide)) (fun e => by cases e) (fun e => by cases e) (fun _ e2 => ?_)
    rcases hX with rfl | ⟨s, hs, rfl, _, _⟩
    · cases e2
    · exact hfr s hs g o sp e e2
end
end Go.Proofs.Ytbmgeomndfodpaa
