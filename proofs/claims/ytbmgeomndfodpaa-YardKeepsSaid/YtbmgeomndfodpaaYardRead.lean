/-
  The contract of yard's Read.
-/
import Derived.Test.YtbmgeomndfodpaaCloneB
namespace Go.Proofs.Ytbmgeomndfodpaa
open Go.RowKit Go.Mem Go.Proofs

/-- the file with a number -/
def whoM (k : Int) : List MF → Option MF
  | [] => none
  | x :: m => if x.ino = k then some x else whoM k m
theorem whoM_some {k : Int} {m : List MF} {x : MF} (h : whoM k m = some x) : x.ino = k ∧ ∃ i : Nat, m[i]? = some x := by
  induction m with
  | nil => cases h
  | cons z m ih =>
    unfold whoM at h
    split at h
    · next h1 => injection h with h; subst h; exact ⟨h1, 0, rfl⟩
    · obtain ⟨h1, i, hi⟩ := ih h; exact ⟨h1, i + 1, by simpa using hi⟩
theorem whoM_none {k : Int} {m : List MF} (h : whoM k m = none) : ∀ x ∈ m, x.ino ≠ k := by
  induction m with
  | nil => simp
  | cons z m ih =>
    unfold whoM at h
    split at h
    · cases h
    · next h1 =>
      intro x hx
      rcases List.mem_cons.1 hx with rfl | hx
      · exact h1
      · exact ih h x hx
theorem Gd.who {m : List MF} (hg : Gd m) {i : Nat} {x : MF} (hx : m[i]? = some x) : whoM x.ino m = some x := by
  cases hw : whoM x.ino m with
  | none => exact absurd rfl (whoM_none hw x (List.mem_of_getElem? hx))
  | some z =>
    obtain ⟨h1, j, hj⟩ := whoM_some hw
    have h4 : (m.map MF.ino)[i]? = some x.ino := by rw [List.getElem?_map, hx]; rfl
    have h5 : (m.map MF.ino)[j]? = some x.ino := by rw [List.getElem?_map, hj, ← h1]; rfl
    rcases Nat.lt_trichotomy i j with h6 | rfl | h6
    · have := hg.r.get h6 h4 h5; simp [ltI] at this
    · rw [hx] at hj; exact hj.symm
    · have := hg.r.get h6 h5 h4; simp [ltI] at this
def readNo (k a n : Int) (m : List MF) : Int := match whoM k m with
  | none => 7
  | some _ => if a < 0 ∨ n < 0 then 1 else 0
def readB (k a n : Int) (m : List MF) : List UInt8 := match whoM k m with
  | none => []
  | some x => if a < 0 ∨ n < 0 then [] else (x.data.drop a.toNat).take n.toNat
def readT (k a n : Int) (m : List MF) (tk : List (Int × Int)) : List (Int × Int) := if readNo k a n m = 0 then setTk k (takenM k tk + (readB k a n m).length) tk else tk
theorem read_none {k a n : Int} {m : List MF} {tk : List (Int × Int)} (h : whoM k m = none) : readNo k a n m = 7 ∧ readB k a n m = [] ∧ readT k a n m tk = tk := by
  have h1 : readNo k a n m = 7 := by unfold readNo; rw [h]
  refine ⟨h1, by unfold readB; rw [h], ?_⟩
  unfold readT; rw [if_neg (by rw [h1]; decide)]
theorem read_bad {k a n : Int} {m : List MF} {x : MF} {tk : List (Int × Int)} (h : whoM k m = some x) (hb : a < 0 ∨ n < 0) : readNo k a n m = 1 ∧ readB k a n m = [] ∧ readT k a n m tk = tk := by
  have h1 : readNo k a n m = 1 := by unfold readNo; rw [h]; exact if_pos hb
  refine ⟨h1, by unfold readB; rw [h]; exact if_pos hb, ?_⟩
  unfold readT; rw [if_neg (by rw [h1]; decide)]
theorem read_ok {k a n : Int} {m : List MF} {x : MF} {tk : List (Int × Int)} (h : whoM k m = some x) (hb : ¬ (a < 0 ∨ n < 0)) : readNo k a n m = 0 ∧ readB k a n m = (x.data.drop a.toNat).take n.toNat ∧ readT k a n m tk = setTk k (takenM k tk + ((x.data.drop a.toNat).take n.toNat).length) tk := by
  have h1 : readNo k a n m = 0 := by unfold readNo; rw [h]; exact if_neg hb
  have h2 : readB k a n m = (x.data.drop a.toNat).take n.toNat := by unfold readB; rw [h]; exact if_neg hb
  refine ⟨h1, h2, ?_⟩
  unfold readT; rw [if_pos h1, h2]
/-- what Read ends in -/
def ReadEnds (w : World) (B y : Nat) (bs : List UInt8) (no : Int) (m : List MF) (tk : List (Int × Int)) (S : Nat → Prop) (e : Ending) (w' : World) : Prop := ∃ (D : Option Addr) (c : Nat) (S' : Nat → Prop), e = .returned (.tuple #[.slice D bs.length c, .int .i64 no]) ∧ OwnB w' w.heap.size 5 1 D bs.length c (bs.map B8) ∧ YS w' B y m tk S' ∧ Fp w w' S S' ∧ Below B w w' ∧ ∀ g, D = some ⟨g, 0, none⟩ → ¬ S' g
theorem ReadEnds.none {w w' : World} {B y : Nat} {no : Int} {m : List MF} {tk : List (Int × Int)} {pF pT : Nat} {DK DV DK2 DV2 : Option Addr} {vs : List Fl} (h : Yd w' B y m tk pF pT DK DV DK2 DV2 vs) (hb : Below w.heap.size w w') (hB : B ≤ w.heap.size) : ReadEnds w B y [] no m tk (FootY pF pT y DK DV DK2 DV2 vs) (.returned (.tuple #[.slice none 0 0, .int .i64 no])) w' :=
  ⟨_, _, _, rfl, OwnB.nil _ _ _ _, ⟨_, _, _, _, _, _, _, h, rfl⟩, Fp.of_below hb _, hb.mono hB, fun g h => by cases h⟩
/-- a table of numbers kept a block of another type -/
theorem kpT {w w' : World} {B pT : Nat} {DK DV : Option Addr} {ks vs : List Int} (h : TbII w B pT DK DV ks vs) (kp : Kp w w' pT DK DV) {g : Nat} {t : TypeId} {cs : List Value} (hb : Blk w g t cs) (h1 : t ≠ 126) (h2 : 3 ≠ t) : w'.heap[g]? = w.heap[g]? := by
  obtain ⟨_, _, h, _⟩ := h
  exact kp _ hb.lt (hb.ne_ h.b h1) (own_ne_blk h.k hb h2) (own_ne_blk h.v hb h2)
theorem Yd.turnedT {w w' : World} {B y : Nat} {m : List MF} {tk tk' : List (Int × Int)} {pF pT : Nat} {DK DV DK2 DV2 : Option Addr} {vs : List Fl} {v : Value} {e : Ending} (h : Yd w B y m tk pF pT DK DV DK2 DV2 vs)
    (he : TEndsII w B pT DK2 DV2 v (tk'.map Prod.fst) (tk'.map Prod.snd) e w') (hr : Tab.Rising ltI (tk'.map Prod.fst)) :
    ∃ DK2' DV2', Yd w' B y m tk' pF pT DK DV DK2' DV2' vs ∧ Fp w w' (FootY pF pT y DK DV DK2 DV2 vs) (FootY pF pT y DK DV DK2' DV2' vs) ∧ Below B w w' ∧ (∀ g t cs, Blk w g t cs → t = 5 → w'.heap[g]? = w.heap[g]? ∧ DK2' ≠ some ⟨g, 0, none⟩ ∧ DV2' ≠ some ⟨g, 0, none⟩) := by
  obtain ⟨rfl, DK', DV', ht', kp, nK, nV, bb⟩ := he
  have ht := h.t
  refine ⟨DK', DV', ⟨?_, h.yB, ?_, ht', h.rf, hr, fun i f x h1 h2 => ?_, h.ap, ?_⟩, ⟨bb.size, fun g hg hs => ?_, fun g hg hs => ?_⟩, bb, fun g t cs hb e => ?_⟩
  · exact (kpT ht kp h.b (by decide) (by decide)).trans h.b
  · obtain ⟨cK, cV, h2, h3⟩ := h.f
    refine ⟨cK, cV, h2.keep (kpT ht kp h2.b (by decide) (by decide)) (fun g hg => ?_) (fun g hg => ?_), h3⟩
    · have hk2 := h2.k
      have hkk := h.kk g hg
      obtain ⟨_, _, t2, _⟩ := ht
      rw [hg] at hk2
      obtain ⟨cs, hc⟩ := own_blkN hk2
      exact kp _ hc.lt (hc.ne_ t2.b (by decide)) hkk.1 hkk.2
    · have hv2 := h2.v
      rw [hg] at hv2
      obtain ⟨cs, hc⟩ := own_blkN hv2
      exact kpT ht kp hc (by decide) (by decide)
  · obtain ⟨a, b, d⟩ := h.own i f x h1 h2
    refine ⟨a, b, own_keepN d (fun g hg => ?_)⟩
    rw [hg] at d
    obtain ⟨cs, hc⟩ := own_blkN d
    exact kpT ht kp hc (by decide) (by decide)
  · intro b hbk
    have hkk := h.kk b hbk
    obtain ⟨_, _, h2, _⟩ := h.f
    have hlt := (own_ltN h2.k hbk).1
    exact ⟨nK.ne hlt hkk.1, nV.ne hlt hkk.2⟩
  · refine kp g hg (fun e => hs ?_) (fun e => hs ?_) (fun e => hs ?_)
    · exact .inr (.inr (.inl e))
    · exact .inr (.inr (.inr (.inr (.inr (.inl e)))))
    · exact .inr (.inr (.inr (.inr (.inr (.inr (.inl e))))))
  · rcases hs with q0 | q0 | q0 | q0 | q0 | q0 | q0 | q0
    · exact .inl q0
    · exact .inr (.inl q0)
    · exact .inr (.inr (.inl q0))
    · exact .inr (.inr (.inr (.inl q0)))
    · exact .inr (.inr (.inr (.inr (.inl q0))))
    · rcases nK with rfl | ⟨g', h1, h3⟩
      · exact .inr (.inr (.inr (.inr (.inr (.inl q0)))))
      · rw [h1] at q0; injection q0 with q0; injection q0 with q0; omega
    · rcases nV with rfl | ⟨g', h1, h3⟩
      · exact .inr (.inr (.inr (.inr (.inr (.inr (.inl q0))))))
      · rw [h1] at q0; injection q0 with q0; injection q0 with q0; omega
    · exact .inr (.inr (.inr (.inr (.inr (.inr (.inr q0))))))
  · subst e
    obtain ⟨_, _, t2, _⟩ := h.t
    exact ⟨kpT h.t kp hb (by decide) (by decide), nK.ne hb.lt (own_ne_blk t2.k hb (by decide)), nV.ne hb.lt (own_ne_blk t2.v hb (by decide))⟩
theorem Yd.setT_calls {w : World} {B y : Nat} {m : List MF} {tk : List (Int × Int)} {pF pT : Nat} {DK DV DK2 DV2 : Option Addr} {vs : List Fl} (h : Yd w B y m tk pF pT DK DV DK2 DV2 vs) (k v : Int) (hl : tk.length ≤ 100000) (hBw : B ≤ w.heap.size) :
    Calls Try.prog 59 #[.pointer (some ⟨pT, 0, none⟩), .int .i64 k, .int .i64 v] w fun e w' => (∃ b, e = .returned (.bool b)) ∧ ∃ DK2' DV2', Yd w' B y m (setTk k v tk) pF pT DK DV DK2' DV2' vs ∧ Fp w w' (FootY pF pT y DK DV DK2 DV2 vs) (FootY pF pT y DK DV DK2' DV2' vs) ∧ Below B w w' ∧ (∀ g t cs, Blk w g t cs → t = 5 → w'.heap[g]? = w.heap[g]? ∧ DK2' ≠ some ⟨g, 0, none⟩ ∧ DV2' ≠ some ⟨g, 0, none⟩) := by
  obtain ⟨i, hat⟩ := Tab.At.ex ordI (tk.map Prod.fst) h.rt k
  rw [setTk_at v hat]
  by_cases hf : (tk.map Prod.fst)[i]? = some k
  · rw [if_pos hf]
    have hkk : (tk.set i (k, v)).map Prod.fst = tk.map Prod.fst := by
      rw [List.map_set]
      refine List.ext_getElem? (fun j => ?_)
      rw [List.getElem?_set]
      split
      · next e => subst e; rw [if_pos (List.getElem?_eq_some_iff.1 hf).1, hf]
      · rfl
    have hvv : (tk.set i (k, v)).map Prod.snd = (tk.map Prod.snd).set i v := List.map_set
    refine (setII_old B pT DK2 DV2 (tk.map Prod.fst) (tk.map Prod.snd) k v i w h.t h.rt hat (by rw [List.length_map]; omega) hf).mono ?_
    intro e w' he
    refine ⟨⟨_, he.1⟩, ?_⟩
    rw [← hvv] at he
    exact h.turnedT (tk' := tk.set i (k, v)) (by rw [hkk]; exact he) (by rw [hkk]; exact h.rt)
  · rw [if_neg hf]
    refine (setII_new B pT DK2 DV2 (tk.map Prod.fst) (tk.map Prod.snd) k v i w h.t h.rt hat (by rw [List.length_map]; omega) hf hBw).mono ?_
    intro e w' he
    refine ⟨⟨_, he.1⟩, ?_⟩
    have h1 : (tk.take i ++ (k, v) :: tk.drop i).map Prod.fst = (tk.map Prod.fst).take i ++ k :: (tk.map Prod.fst).drop i := by simp
    have h2 : (tk.take i ++ (k, v) :: tk.drop i).map Prod.snd = (tk.map Prod.snd).take i ++ v :: (tk.map Prod.snd).drop i := by simp
    exact h.turnedT (tk' := tk.take i ++ (k, v) :: tk.drop i) (by rw [h1, h2]; exact he) (by rw [h1]; exact Tab.Rising.ins ordI h.rt hat hf)
end Go.Proofs.Ytbmgeomndfodpaa
