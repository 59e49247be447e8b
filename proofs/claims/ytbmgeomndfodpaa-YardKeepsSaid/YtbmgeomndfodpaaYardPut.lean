/-
  The yard behind a turn of one file's bytes.
-/
import Derived.Test.YtbmgeomndfodpaaYardCreate2
namespace Go.Proofs.Ytbmgeomndfodpaa
open Go.RowKit Go.Mem Go.Proofs

/-- what stands of the yard while the bytes of one file turn: all but that file's bytes -/
structure But (w : World) (B y : Nat) (m : List MF) (tk : List (Int × Int)) (pF pT : Nat) (DK DV DK2 DV2 : Option Addr) (vs : List Fl) (i : Nat) : Prop where
  b : Blk w y 95 [.pointer (some ⟨pF, 0, none⟩), .pointer (some ⟨pT, 0, none⟩)]
  yB : B ≤ y
  f : TbIF w B pF DK DV (m.map MF.ino) vs
  t : TbII w B pT DK2 DV2 (tk.map Prod.fst) (tk.map Prod.snd)
  rf : Tab.Rising ltI (m.map MF.ino)
  rt : Tab.Rising ltI (tk.map Prod.fst)
  own : ∀ (j : Nat) (f : Fl) (x : MF), j ≠ i → vs[j]? = some f → m[j]? = some x → f.name = x.name ∧ f.n = x.data.length ∧ OwnB w B 5 1 f.d f.n f.c (x.data.map B8)
  ap : ∀ (i j : Nat) (f g : Fl), i ≠ j → vs[i]? = some f → vs[j]? = some g → ∀ b, f.d = some ⟨b, 0, none⟩ → g.d ≠ some ⟨b, 0, none⟩
  kk : ∀ b, DK = some ⟨b, 0, none⟩ → DK2 ≠ some ⟨b, 0, none⟩ ∧ DV2 ≠ some ⟨b, 0, none⟩
  len : vs.length = m.length
section
variable {w w' : World} {B y : Nat} {m : List MF} {tk : List (Int × Int)} {pF pT : Nat} {DK DV DK2 DV2 : Option Addr} {vs : List Fl} {i : Nat}
theorem Yd.but (h : Yd w B y m tk pF pT DK DV DK2 DV2 vs) (i : Nat) : But w B y m tk pF pT DK DV DK2 DV2 vs i := ⟨h.b, h.yB, h.f, h.t, h.rf, h.rt, fun j f x _ h1 h2 => h.own j f x h1 h2, h.ap, h.kk, h.len⟩
theorem But.below (h : But w B y m tk pF pT DK DV DK2 DV2 vs i) (hb : Below w.heap.size w w') : But w' B y m tk pF pT DK DV DK2 DV2 vs i :=
  ⟨h.b.below hb h.b.lt, h.yB, h.f.below hb, h.t.below hb, h.rf, h.rt, fun j f x h0 h1 h2 => by
    obtain ⟨a, b, d⟩ := h.own j f x h0 h1 h2; exact ⟨a, b, d.below hb⟩, h.ap, h.kk, h.len⟩
/-- nothing but that file's bytes, and what is new or of another type, turns -/
theorem But.keep (h : But w B y m tk pF pT DK DV DK2 DV2 vs i) {D : Option Addr} (hD : ∀ g t cs, D = some ⟨g, 0, none⟩ → Blk w g t cs → t = 5 ∨ t = 91 ∧ DV ≠ some ⟨g, 0, none⟩) (hap : ∀ j g, j ≠ i → vs[j]? = some g → ∀ b, D = some ⟨b, 0, none⟩ → g.d ≠ some ⟨b, 0, none⟩) (hk : ∀ g, g < w.heap.size → D ≠ some ⟨g, 0, none⟩ → w'.heap[g]? = w.heap[g]?) : But w' B y m tk pF pT DK DV DK2 DV2 vs i := by
  have one : ∀ {g : Nat} {t : TypeId} {cs : List Value}, Blk w g t cs → t ≠ 5 → t ≠ 91 → w'.heap[g]? = w.heap[g]? := fun {g t cs} hb h1 h2 => hk _ hb.lt (fun e => by
    rcases hD _ _ _ e hb with h3 | ⟨h3, _⟩
    · exact h1 h3
    · exact h2 h3)
  refine ⟨(one h.b (by decide) (by decide)).trans h.b, h.yB, ?_, ?_, h.rf, h.rt, fun j f x h0 h1 h2 => ?_, h.ap, h.kk, h.len⟩
  · obtain ⟨c1, c2, h2, h3⟩ := h.f
    refine ⟨c1, c2, h2.keep (one h2.b (by decide) (by decide)) (fun g hg => ?_) (fun g hg => ?_), h3⟩
    · have hh := h2.k
      subst hg
      obtain ⟨cs, hc⟩ := own_blkN hh
      exact one hc (by decide) (by decide)
    · have hh := h2.v
      rw [hg] at hh
      obtain ⟨cs, hc⟩ := own_blkN hh
      exact hk _ hc.lt (fun e => by
        rcases hD _ _ _ e hc with h3 | ⟨_, h3⟩
        · cases h3
        · exact h3 hg)
  · obtain ⟨c1, c2, h2, h3⟩ := h.t
    refine ⟨c1, c2, h2.keep (one h2.b (by decide) (by decide)) (fun g hg => ?_) (fun g hg => ?_), h3⟩
    · have hh := h2.k
      subst hg
      obtain ⟨cs, hc⟩ := own_blkN hh
      exact one hc (by decide) (by decide)
    · have hh := h2.v
      subst hg
      obtain ⟨cs, hc⟩ := own_blkN hh
      exact one hc (by decide) (by decide)
  · obtain ⟨a, b, d⟩ := h.own j f x h0 h1 h2
    exact ⟨a, b, own_keepN d (fun g hg => hk g (own_ltN d hg).1 (fun e => hap j f h0 h1 g e hg))⟩
/-- a file is put back into the table -/
theorem But.bytes (h : But w B y m tk pF pT DK DV DK2 DV2 vs i) {f : Fl} {x : MF} (hi : i < m.length) (hn : f.name = x.name) (hl : f.n = x.data.length) (ho : OwnB w B 5 1 f.d f.n f.c (x.data.map B8)) (hap : ∀ j g, j ≠ i → vs[j]? = some g → ∀ b, f.d = some ⟨b, 0, none⟩ → g.d ≠ some ⟨b, 0, none⟩) : Bytes w B (m.set i x) (vs.set i f) := by
  have hlen := h.len
  refine ⟨fun j f' x' h1 h2 => ?_, fun j1 j2 f1 f2 hne h1 h2 b hb => ?_⟩
  · rw [List.getElem?_set] at h1 h2
    split at h1
    · next e =>
      rw [if_pos e] at h2
      rw [if_pos (by omega)] at h1 h2
      injection h1 with h1; injection h2 with h2; subst h1; subst h2
      exact ⟨hn, hl, ho⟩
    · next e => rw [if_neg e] at h2; exact h.own j f' x' (fun e' => e e'.symm) h1 h2
  · rw [List.getElem?_set] at h1 h2
    split at h1
    · next e =>
      rw [if_pos (by omega)] at h1
      injection h1 with h1; subst h1
      rw [if_neg (by omega)] at h2
      exact hap j2 f2 (by omega) h2 b hb
    · next e =>
      split at h2
      · next e2 =>
        rw [if_pos (by omega)] at h2
        injection h2 with h2; subst h2
        exact fun hg => hap j1 f1 (by omega) h1 b hg hb
      · exact h.ap j1 j2 f1 f2 hne h1 h2 b hb
/-- Set at an old key: the yard again -/
theorem But.set_calls (h : But w B y m tk pF pT DK DV DK2 DV2 vs i) {x x0 : MF} (hx : m[i]? = some x0) (hino : x.ino = x0.ino) {f : Fl} (hn : f.name = x.name) (hl : f.n = x.data.length) (ho : OwnB w B 5 1 f.d f.n f.c (x.data.map B8)) (hap : ∀ j g, j ≠ i → vs[j]? = some g → ∀ b, f.d = some ⟨b, 0, none⟩ → g.d ≠ some ⟨b, 0, none⟩) (hm : m.length ≤ 1000000) (hBw : B ≤ w.heap.size) :
    Calls Try.prog 52 #[.pointer (some ⟨pF, 0, none⟩), .int .i64 x0.ino, f.val] w fun e w' => e = .returned (.bool false) ∧ ∃ DK' DV', Yd w' B y (m.set i x) tk pF pT DK' DV' DK2 DV2 (vs.set i f) ∧ Fp w w' (FootY pF pT y DK DV DK2 DV2 (vs.set i f)) (FootY pF pT y DK' DV' DK2 DV2 (vs.set i f)) ∧ Below B w w' := by
  have hi := (List.getElem?_eq_some_iff.1 hx).1
  have hk : (m.map MF.ino)[i]? = some x0.ino := by rw [List.getElem?_map, hx]; rfl
  refine (setIF_old B pF DK DV (m.map MF.ino) vs x0.ino f i w h.f h.rf (Tab.At.of_get ordI h.rf hk) (by rw [List.length_map]; exact hm) hk hBw).mono ?_
  intro e w' he
  have hev := he.val
  rw [← map_ino_set hx hino] at he
  obtain ⟨_, r⟩ := Yd.turned (vs0 := vs.set i f) h.b h.yB h.f h.t h.rt h.kk he (by rw [map_ino_set hx hino]; exact h.rf) (h.bytes hi hn hl ho hap) (fun f hf g hg _ => ⟨f, hf, hg⟩)
  exact ⟨hev, r⟩
theorem foot_set {f f0 : Fl} (hf0 : vs[i]? = some f0) {n : Nat} (hd : ∀ g, g < n → f.d = some ⟨g, 0, none⟩ → f0.d = some ⟨g, 0, none⟩) {g : Nat} (hg : g < n) (h : FootY pF pT y DK DV DK2 DV2 (vs.set i f) g) : FootY pF pT y DK DV DK2 DV2 vs g := by
  rcases h with h | h | h | h | h | h | h | ⟨f1, h1, h2⟩
  · exact .inl h
  · exact .inr (.inl h)
  · exact .inr (.inr (.inl h))
  · exact .inr (.inr (.inr (.inl h)))
  · exact .inr (.inr (.inr (.inr (.inl h))))
  · exact .inr (.inr (.inr (.inr (.inr (.inl h)))))
  · exact .inr (.inr (.inr (.inr (.inr (.inr (.inl h))))))
  · refine .inr (.inr (.inr (.inr (.inr (.inr (.inr ?_))))))
    rcases List.mem_or_eq_of_mem_set h1 with h1 | rfl
    · exact ⟨f1, h1, h2⟩
    · exact ⟨f0, List.mem_of_getElem? hf0, hd g hg h2⟩
end
end Go.Proofs.Ytbmgeomndfodpaa
