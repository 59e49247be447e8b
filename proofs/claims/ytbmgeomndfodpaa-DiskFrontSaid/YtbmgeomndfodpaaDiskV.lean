/-
  The disk as the laws take it: what was marked, the raw writes since; what holds of them.
-/
import Derived.Test.YtbmgeomndfodpaaDiskDo
import Derived.Test.YtbmgeomndfodpaaDiskRight
namespace Go.Proofs.Ytbmgeomndfodpaa
open Go.RowKit Go.Mem Go.Proofs

/-- what holds of a disk at any time: K files, N raw writes at most -/
structure GD (K N : Nat) (M : FS) (W : List MW) : Prop where
  r : Tab.Rising ltS (M.map Prod.fst)
  ok : ∀ (j : Nat) (x : MW), W[j]? = some x → x.ok (replay M (W.take j))
  tot : ∀ j : Nat, totF (replay M (W.take j)) ≤ 16777216
  fl : ∀ j : Nat, (replay M (W.take j)).length ≤ K
  n : W.length ≤ N
theorem GD.nil : GD 0 0 [] [] := ⟨List.Pairwise.nil, by simp, by intro j; simp [replay, totF], by intro j; simp [replay], by simp⟩
theorem GD.mono {K K' N N' : Nat} {M : FS} {W : List MW} (h : GD K N M W) (hK : K ≤ K') (hN : N ≤ N') : GD K' N' M W := ⟨h.r, h.ok, h.tot, fun j => Nat.le_trans (h.fl j) hK, Nat.le_trans h.n hN⟩
theorem GD.push {K N : Nat} {M : FS} {W : List MW} (h : GD K N M W) {x : MW} (hx : x.ok (replay M W)) (ht : totF (x.app (replay M W)) ≤ 16777216) (hl : (x.app (replay M W)).length ≤ K) : GD K (N + 1) M (W ++ [x]) := by
  have hpre : ∀ j, j ≤ W.length → (W ++ [x]).take j = W.take j := fun j hj => List.take_append_of_le_length hj
  have hall : ∀ j, W.length < j → (W ++ [x]).take j = W ++ [x] := fun j hj => List.take_of_length_le (by simp; omega)
  refine ⟨h.r, fun j y hy => ?_, fun j => ?_, fun j => ?_, by have := h.n; simp; omega⟩
  · rcases Nat.lt_or_ge j W.length with hj | hj
    · rw [List.getElem?_append_left hj] at hy
      rw [hpre j (by omega)]; exact h.ok j y hy
    · have hlt := (List.getElem?_eq_some_iff.1 hy).1
      obtain rfl : j = W.length := by simp at hlt; omega
      rw [List.getElem?_append_right (Nat.le_refl _), Nat.sub_self] at hy
      injection hy with hy; subst hy
      rw [hpre _ (Nat.le_refl _), List.take_length]; exact hx
  · rcases Nat.lt_or_ge W.length j with hj | hj
    · rw [hall j hj, replay_app]; exact ht
    · rw [hpre j hj]; exact h.tot j
  · rcases Nat.lt_or_ge W.length j with hj | hj
    · rw [hall j hj, replay_app]; exact hl
    · rw [hpre j hj]; exact h.fl j
theorem GD.now {K N : Nat} {M : FS} {W : List MW} (h : GD K N M W) : totF (replay M W) ≤ 16777216 ∧ (replay M W).length ≤ K := by
  have h1 := h.tot W.length
  have h2 := h.fl W.length
  rw [List.take_length] at h1 h2
  exact ⟨h1, h2⟩
/-- a mark is set -/
theorem GD.mark {K N : Nat} {M : FS} {W : List MW} (h : GD K N M W) : GD K 0 (replay M W) [] :=
  ⟨replay_rise h.r W, by simp, fun j => by simpa [replay] using h.now.1, fun j => by simpa [replay] using h.now.2, by simp⟩
theorem GD.take {K N : Nat} {M : FS} {W : List MW} (h : GD K N M W) (n : Nat) : GD K N M (W.take n) :=
  ⟨h.r, fun j x hj => by
    have hlt := (List.getElem?_eq_some_iff.1 hj).1
    simp at hlt
    rw [List.getElem?_take_of_lt (by omega)] at hj
    rw [List.take_take, Nat.min_eq_left (by omega)]
    exact h.ok j x hj, fun j => by rw [List.take_take]; exact h.tot _, fun j => by rw [List.take_take]; exact h.fl _, by simp; have := h.n; omega⟩
/-- the disk in block d: its blocks those of S -/
def DY (w : World) (B d : Nat) (M : FS) (W : List MW) (S : Nat → Prop) : Prop := ∃ l pF pM KF VF KM VM WD cW vF vM, l.map Prod.fst = W ∧ DD w B d M (replay M W) l pF pM KF VF KM VM WD cW vF vM ∧ S = FootD d pF pM KF VF KM VM WD vF vM l
structure DV (K N : Nat) (w : World) (B d : Nat) (M : FS) (W : List MW) (S : Nat → Prop) : Prop where
  y : DY w B d M W S
  g : GD K N M W
  b : B ≤ w.heap.size
/-- what a call on the disk ends in -/
def DE (K N : Nat) (w : World) (B d : Nat) (v : Value) (M : FS) (W : List MW) (S : Nat → Prop) (e : Ending) (w' : World) : Prop := e = .returned v ∧ ∃ S', DV K N w' B d M W S' ∧ Fp w w' S S' ∧ Below B w w'
section
variable {w w' : World} {B d K N : Nat} {M : FS} {W : List MW} {S : Nat → Prop}
theorem DY.keep (h : DY w B d M W S) (hk : ∀ g, g < w.heap.size → S g → w'.heap[g]? = w.heap[g]?) : DY w' B d M W S := by
  obtain ⟨a0, a1, a2, a3, a4, a5, a6, a7, a8, a9, a10, e, h, rfl⟩ := h
  exact ⟨a0, a1, a2, a3, a4, a5, a6, a7, a8, a9, a10, e, h.keep hk, rfl⟩
theorem DY.below (h : DY w B d M W S) (hb : Below w.heap.size w w') : DY w' B d M W S := h.keep fun g hg _ => hb.block g hg
theorem DY.lt (h : DY w B d M W S) : ∀ g, S g → B ≤ g ∧ g < w.heap.size := by
  obtain ⟨a0, a1, a2, a3, a4, a5, a6, a7, a8, a9, a10, e, h, rfl⟩ := h
  exact fun g hg => h.lt hg
theorem DV.below (h : DV K N w B d M W S) (hb : Below w.heap.size w w') : DV K N w' B d M W S := ⟨h.y.below hb, h.g, Nat.le_trans h.b hb.size⟩
theorem DV.drewN (h : DV K N w B d M W S) (q : Nat) : DV K N (w.drewN q) B d M W S := h.below (below_drewN (Below.refl _ _) q)
theorem DV.alloc (h : DV K N w B d M W S) (o : Obj) : DV K N (w.alloc o) B d M W S := h.below ((Below.refl _ _).alloc (Nat.le_refl _) o)
theorem DV.keep (h : DV K N w B d M W S) (hs : w.heap.size ≤ w'.heap.size) (hk : ∀ g, g < w.heap.size → S g → w'.heap[g]? = w.heap[g]?) : DV K N w' B d M W S := ⟨h.y.keep hk, h.g, Nat.le_trans h.b hs⟩
theorem DV.mono {K' N' : Nat} (h : DV K N w B d M W S) (hK : K ≤ K') (hN : N ≤ N') : DV K' N' w B d M W S := ⟨h.y, h.g.mono hK hN, h.b⟩
/-- a raw write whose bytes are none of the disk's, or none -/
theorem DV.do_ (h : DV K N w B d M W S) (x : MW) (hx : x.ok (replay M W)) (hnd : x.data = []) (ht : totF (x.app (replay M W)) ≤ 16777216) (hl : (x.app (replay M W)).length ≤ K) (hK : K ≤ 90000) (hN : N ≤ 100000000000) :
    Calls Try.prog 70 #[.pointer (some ⟨d, 0, none⟩), .agg (x.cells ⟨none, 0, 0⟩)] w (DE K (N + 1) w B d (.tuple #[]) M (W ++ [x]) S) := by
  obtain ⟨⟨l, pF, pM, KF, VF, KM, VM, WD, cW, vF, vM, he, dd, rfl⟩, hg, hB⟩ := h
  have hn := hg.n
  have hF := hg.now.2
  have hll : l.length = W.length := by rw [← he, List.length_map]
  refine (do_calls dd x ⟨none, 0, 0⟩ hx ⟨by rw [hnd]; rfl, by rw [hnd]; exact Sl.nil, fun g o sp e => by cases e⟩ (fun t _ g o sp e => by cases e) (by omega) (by omega) hB).mono fun e w' hE => ?_
  obtain ⟨rfl, KF', VF', WD', cW', vF', d2, fp, bb, _, _⟩ := hE
  refine ⟨rfl, _, ⟨⟨l ++ [(x, ⟨none, 0, 0⟩)], pF, pM, KF', VF', KM, VM, WD', cW', vF', vM, by simp [he], by rw [replay_app]; exact d2, rfl⟩, hg.push hx ht hl, Nat.le_trans hB bb.size⟩, ⟨fp.sz, fun g hg hs => fp.k g hg (fun e => ?_), fun g hg hs => ?_⟩, bb⟩
  · rcases e with e | ⟨o, sp, e⟩
    · exact hs e
    · cases e
  · rcases fp.n g hg hs with e | ⟨o, sp, e⟩
    · exact e
    · cases e
set_option maxRecDepth 100000 in
theorem count_calls (h : DV K N w B d M W S) : Calls Try.prog 35 #[.pointer (some ⟨d, 0, none⟩)] w fun e w' => e = .returned (.int .i64 (W.length : Int)) ∧ w' = w := by
  obtain ⟨⟨l, pF, pM, KF, VF, KM, VM, WD, cW, vF, vM, he, dd, rfl⟩, hg, hB⟩ := h
  have hll : W.length = l.length := by rw [← he, List.length_map]
  rw [hll]
  have c2 := dd.b.cell 2
  simp only [List.getElem?_cons_zero, List.getElem?_cons_succ] at c2
  clear dd hg hB hll he
  go_enter Try.func35, Try.ntmps35
  go_wp2_with fail
  go_ret
  exact ⟨rfl, rfl⟩
set_option maxRecDepth 100000 in
theorem names_calls (h : DV K N w B d M W S) (hK : K ≤ 90000) : Calls Try.prog 40 #[.pointer (some ⟨d, 0, none⟩)] w fun e w' => ∃ D' c', e = .returned (.slice D' (replay M W).length c') ∧ OwnB w' w.heap.size 9 1 D' (replay M W).length c' ((replay M W).map fun x => Value.string x.1) ∧ DV K N w' B d M W S ∧ Below w.heap.size w w' := by
  have hh := h
  obtain ⟨⟨l, pF, pM, KF, VF, KM, VM, WD, cW, vF, vM, he, dd, rfl⟩, hg, hB⟩ := h
  have hF := hg.now.2
  have c0 := dd.b.cell 0
  simp only [List.getElem?_cons_zero] at c0
  have HK := Lib.hid (keysSL_calls B pF KF VF _ vF w dd.f.tb (by rw [List.length_map]; omega))
  have HH := Lib.hid hh
  unfold KeysEndSL at HK
  rw [List.length_map, List.map_map] at HK
  clear dd hg hB hh he hF
  generalize replay M W = F at *
  go_enter Try.func40, Try.ntmps40
  go_wp2_with fail
  refine HK.out.mono ?_
  rintro e w1 ⟨D1, k1, rfl, o1, b1⟩
  have HO := Lib.hid o1
  clear o1 HK
  go_wp2_with fail
  go_ret
  exact ⟨D1, k1, rfl, HO.out, HH.out.below b1, b1⟩
end
end Go.Proofs.Ytbmgeomndfodpaa
