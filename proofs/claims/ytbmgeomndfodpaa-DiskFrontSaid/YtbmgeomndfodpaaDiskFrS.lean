/-
  DiskFront's memory: the disk, an array of two slices, an array of two numbers.
-/
import Derived.Test.YtbmgeomndfodpaaDiskFrM
import Derived.Test.YtbmgeomndfodpaaDiskPair
namespace Go.Proofs.Ytbmgeomndfodpaa
open Go.RowKit Go.Mem Go.Proofs

structure FrS (K N : Nat) (w0 w : World) (d ab wb : Nat) (W : List MW) (al : Nat → Sb) (a : Nat → List UInt8) (wv : Nat → Nat) (S : Nat → Prop) : Prop where
  h : DV K N w w0.heap.size d [] W S
  ba : Blk w ab 84 [(al 0).val, (al 1).val]
  bw : Blk w wb 85 [.int .i64 (wv 0 : Int), .int .i64 (wv 1 : Int)]
  o : ∀ f, f < 2 → (al f).n = (a f).length ∧ OwnB w w0.heap.size 5 1 (al f).d (al f).n (al f).c ((a f).map B8)
  ap : ∀ f f', f < 2 → f' < 2 → f' ≠ f → ∀ g, (al f).d = some ⟨g, 0, none⟩ → (al f').d ≠ some ⟨g, 0, none⟩
  sa : ¬ S ab
  sw : ¬ S wb
  so : ∀ f, f < 2 → ∀ g, (al f).d = some ⟨g, 0, none⟩ → ¬ S g
  aB : w0.heap.size ≤ ab
  wB : w0.heap.size ≤ wb
  bb : Below w0.heap.size w0 w
section
variable {K N K' N' : Nat} {w0 w w' : World} {d ab wb : Nat} {W W' : List MW} {al : Nat → Sb} {a : Nat → List UInt8} {wv : Nat → Nat} {S S' : Nat → Prop}
theorem FrS.below (h : FrS K N w0 w d ab wb W al a wv S) (hb : Below w.heap.size w w') : FrS K N w0 w' d ab wb W al a wv S :=
  ⟨h.h.below hb, h.ba.below hb h.ba.lt, h.bw.below hb h.bw.lt, fun f hf => ⟨(h.o f hf).1, (h.o f hf).2.below hb⟩, h.ap, h.sa, h.sw, h.so, h.aB, h.wB, h.bb.trans (hb.mono h.bb.size)⟩
theorem FrS.mono (h : FrS K N w0 w d ab wb W al a wv S) (hK : K ≤ K') (hN : N ≤ N') : FrS K' N' w0 w d ab wb W al a wv S :=
  ⟨h.h.mono hK hN, h.ba, h.bw, h.o, h.ap, h.sa, h.sw, h.so, h.aB, h.wB, h.bb⟩
theorem two {α : Type} (x : Nat → α) {f : Nat} (hf : f < 2) : [x 0, x 1][f]? = some (x f) := by
  have : f = 0 ∨ f = 1 := by omega
  rcases this with rfl | rfl <;> rfl
theorem two_set {α : Type} (x : Nat → α) {f : Nat} (hf : f < 2) (v : α) : [x 0, x 1].set f v = [upd x f v 0, upd x f v 1] := by
  have : f = 0 ∨ f = 1 := by omega
  rcases this with rfl | rfl
  · rfl
  · rfl
theorem FrS.slice (h : FrS K N w0 w d ab wb W al a wv S) {f : Nat} (hf : f < 2) : w.cell? ⟨ab, f, none⟩ = some (.slice (al f).d (al f).n (al f).c) ∧ w.frozen? ⟨ab, f, none⟩ = false :=
  ⟨by rw [h.ba.cell]; exact two (fun f => (al f).val) hf, h.ba.frozen f⟩
theorem FrS.num (h : FrS K N w0 w d ab wb W al a wv S) {f : Nat} (hf : f < 2) : w.cell? ⟨wb, f, none⟩ = some (.int .i64 (wv f : Int)) ∧ w.frozen? ⟨wb, f, none⟩ = false :=
  ⟨by rw [h.bw.cell]; exact two (fun f => Value.int .i64 (wv f : Int)) hf, h.bw.frozen f⟩
/-- a number is set -/
theorem FrS.setN (h : FrS K N w0 w d ab wb W al a wv S) {f : Nat} (hf : f < 2) (v : Nat) : FrS K N w0 (w.setCell ⟨wb, f, none⟩ (.int .i64 (v : Int))) d ab wb W al a (upd wv f v) S := by
  have far : ∀ g, g ≠ wb → (w.setCell ⟨wb, f, none⟩ (.int .i64 (v : Int))).heap[g]? = w.heap[g]? := fun g hg => Below.heap_setCell w ⟨wb, f, none⟩ _ g hg
  refine ⟨h.h.keep (by simp [World.setCell]) (fun g hg hs => far g (fun e => h.sw (by rw [← e]; exact hs))), (far ab (h.ba.ne_ h.bw (by decide))).trans h.ba, ?_, fun f' hf' => ⟨(h.o f' hf').1, own_keepN (h.o f' hf').2 (fun g hg => far g (fun e => own_ne_blkN (h.o f' hf').2 h.bw (by decide) (by rw [hg, e])))⟩, h.ap, h.sa, h.sw, h.so, h.aB, h.wB, h.bb.setCell (p := ⟨wb, f, none⟩) h.wB _⟩
  have := h.bw.set_ f (.int .i64 (v : Int))
  rw [two_set (fun f => Value.int .i64 (wv f : Int)) hf] at this
  have e : ∀ g, upd (fun f => Value.int .i64 (wv f : Int)) f (Value.int .i64 (v : Int)) g = Value.int .i64 ((upd wv f v g : Nat) : Int) := fun g => by unfold upd; split <;> rfl
  rw [e, e] at this
  exact this
/-- one of the slices is lengthened -/
theorem FrS.app (h : FrS K N w0 w d ab wb W al a wv S) {f : Nat} (hf : f < 2) {p : List UInt8} {D : Option Addr} {n c : Nat} (hn : n = (a f).length + p.length) (ho : OwnB w' w0.heap.size 5 1 D n c ((a f ++ p).map B8)) (kp : Kept w w' (al f).d D) (hb : Below w0.heap.size w w') (hs : w.heap.size ≤ w'.heap.size) : FrS K N w0 (w'.setCell ⟨ab, f, none⟩ (.slice D n c)) d ab wb W (upd al f ⟨D, n, c⟩) (upd a f (a f ++ p)) wv S := by
  have hD := (h.o f hf).2
  have hda : (al f).d ≠ some ⟨ab, 0, none⟩ := own_ne_blkN hD h.ba (by decide)
  have ba' := kp.blk h.ba hda
  have bw' := kp.blk h.bw (own_ne_blkN hD h.bw (by decide))
  have hDa : D ≠ some ⟨ab, 0, none⟩ := own_ne_blkN ho ba' (by decide)
  have far : ∀ g, g ≠ ab → (w'.setCell ⟨ab, f, none⟩ (.slice D n c)).heap[g]? = w'.heap[g]? := fun g hg => Below.heap_setCell w' ⟨ab, f, none⟩ _ g hg
  refine ⟨h.h.keep (by simpa [World.setCell] using hs) (fun g hg hS => (far g (fun e => h.sa (by rw [← e]; exact hS))).trans (kp.1 g hg (fun e => h.so f hf g e hS))), ?_, (far wb (h.bw.ne_ h.ba (by decide))).trans bw', fun f' hf' => ?_, fun f1 f2 h1 h2 hne g hg => ?_, h.sa, h.sw, fun f' hf' g hg => ?_, h.aB, h.wB, (h.bb.trans hb).setCell (p := ⟨ab, f, none⟩) h.aB _⟩
  · have := ba'.set_ f (.slice D n c)
    rw [two_set (fun f => (al f).val) hf] at this
    have e : ∀ g, upd (fun f => (al f).val) f (Value.slice D n c) g = (upd al f ⟨D, n, c⟩ g).val := fun g => by unfold upd; split <;> rfl
    rw [e, e] at this
    exact this
  · by_cases hff : f' = f
    · subst hff
      rw [upd_same, upd_same]
      exact ⟨by simp only [List.length_append]; exact hn, ho.farN hDa _⟩
    · rw [upd_ne _ _ hff, upd_ne _ _ hff]
      have o2 := (h.o f' hf').2
      refine ⟨(h.o f' hf').1, ?_⟩
      have o3 := kp.own o2 (fun g hg => h.ap f f' hf hf' hff g hg)
      exact o3.farN (own_ne_blkN o3 ba' (by decide)) _
  · by_cases e1 : f1 = f
    · subst e1
      rw [upd_same] at hg
      rw [upd_ne _ _ hne]
      exact kp.apart (h.o f2 h2).2 (fun g hg => h.ap f1 f2 hf h2 hne g hg) g hg
    · rw [upd_ne _ _ e1] at hg
      by_cases e2 : f2 = f
      · subst e2
        rw [upd_same]
        exact fun e => kp.apart (h.o f1 h1).2 (fun g hg => h.ap f2 f1 hf h1 e1 g hg) g e hg
      · rw [upd_ne _ _ e2]; exact h.ap f1 f2 h1 h2 hne g hg
  · by_cases hff : f' = f
    · subst hff
      rw [upd_same] at hg
      rcases kp.2 with e | e
      · exact h.so f' hf' g (by rw [← e]; exact hg)
      · simp only at hg
        rw [e] at hg; injection hg with hg; injection hg with hg
        intro hS
        have := (h.h.y.lt g hS).2; omega
    · rw [upd_ne _ _ hff] at hg; exact h.so f' hf' g hg
/-- a call on the disk; the files begin anew at M' -/
structure FrT (K N : Nat) (w0 w : World) (d ab wb : Nat) (M : FS) (W : List MW) (al : Nat → Sb) (a : Nat → List UInt8) (wv : Nat → Nat) (S : Nat → Prop) : Prop where
  h : DV K N w w0.heap.size d M W S
  ba : Blk w ab 84 [(al 0).val, (al 1).val]
  bw : Blk w wb 85 [.int .i64 (wv 0 : Int), .int .i64 (wv 1 : Int)]
  o : ∀ f, f < 2 → (al f).n = (a f).length ∧ OwnB w w0.heap.size 5 1 (al f).d (al f).n (al f).c ((a f).map B8)
  bb : Below w0.heap.size w0 w
theorem FrT.below {M : FS} (h : FrT K N w0 w d ab wb M W al a wv S) (hb : Below w.heap.size w w') : FrT K N w0 w' d ab wb M W al a wv S :=
  ⟨h.h.below hb, h.ba.below hb h.ba.lt, h.bw.below hb h.bw.lt, fun f hf => ⟨(h.o f hf).1, (h.o f hf).2.below hb⟩, h.bb.trans (hb.mono h.bb.size)⟩
theorem FrS.call {M' : FS} (h : FrS K N w0 w d ab wb W al a wv S) (h' : DV K' N' w' w0.heap.size d M' W' S') (f : Fp w w' S S') (b : Below w0.heap.size w w') : FrT K' N' w0 w' d ab wb M' W' al a wv S' ∧ ((M' = []) → FrS K' N' w0 w' d ab wb W' al a wv S') := by
  have ba := (f.k ab h.ba.lt h.sa).trans h.ba
  have bw := (f.k wb h.bw.lt h.sw).trans h.bw
  have o : ∀ f, f < 2 → (al f).n = (a f).length ∧ OwnB w' w0.heap.size 5 1 (al f).d (al f).n (al f).c ((a f).map B8) := fun f' hf' => ⟨(h.o f' hf').1, own_keepN (h.o f' hf').2 (fun g hg => f.k g (own_ltN (h.o f' hf').2 hg).1 (h.so f' hf' g hg))⟩
  refine ⟨⟨h', ba, bw, o, h.bb.trans b⟩, fun e => ?_⟩
  subst e
  exact ⟨h', ba, bw, o, h.ap, fun e => h.sa (f.n ab h.ba.lt e), fun e => h.sw (f.n wb h.bw.lt e), fun f' hf' g hg e => h.so f' hf' g hg (f.n g (own_ltN (h.o f' hf').2 hg).1 e), h.aB, h.wB, h.bb.trans b⟩
end
end Go.Proofs.Ytbmgeomndfodpaa
