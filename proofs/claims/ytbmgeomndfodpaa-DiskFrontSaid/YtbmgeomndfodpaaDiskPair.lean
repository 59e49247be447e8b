/-
  Two disks side by side.
-/
import Derived.Test.YtbmgeomndfodpaaDiskRuns
namespace Go.Proofs.Ytbmgeomndfodpaa
open Go.RowKit Go.Mem Go.Proofs

section
variable {w w' : World} {B B' d e K N : Nat} {M : FS} {W : List MW} {S : Nat → Prop}
theorem Dat.low {x : MW} {s : Sb} (h : Dat w B x s) (hB : B' ≤ B) : Dat w B' x s := ⟨h.n, h.sl, fun g o sp e => ⟨Nat.le_trans hB (h.b g o sp e).1, (h.b g o sp e).2⟩⟩
theorem DV.low (h : DV K N w B d M W S) (hB : B' ≤ B) : DV K N w B' d M W S := by
  obtain ⟨⟨l, pF, pM, KF, VF, KM, VM, WD, cW, vF, vM, he, dd, rfl⟩, hg, hb⟩ := h
  exact ⟨⟨l, pF, pM, KF, VF, KM, VM, WD, cW, vF, vM, he, ⟨dd.b, Nat.le_trans hB dd.dB, dd.f.mono hB, dd.m.mono hB, dd.ws.mono hB, fun x hx => (dd.wd x hx).low hB, dd.sh, dd.wf, dd.pp, dd.kk, dd.vv⟩, rfl⟩, hg, Nat.le_trans hB hb⟩
end
/-- two disks, apart, and nothing below w0 has turned -/
def PairD (K N : Nat) (w0 w : World) (d e : Nat) (Md Me : FS) (Wd We : List MW) (Sx : Nat → Prop) : Prop := ∃ Sd Se, DV K N w w0.heap.size d Md Wd Sd ∧ DV K N w w0.heap.size e Me We Se ∧ (∀ g, Sd g → ¬ Se g) ∧ Below w0.heap.size w0 w ∧ ∀ g, Sx g → ¬ Sd g ∧ ¬ Se g ∧ g < w.heap.size
section
variable {w0 w w' : World} {d e K N K' N' : Nat} {Md Me Md' Me' : FS} {Wd We Wd' We' : List MW} {Sx : Nat → Prop}
theorem PairD.below (h : PairD K N w0 w d e Md Me Wd We Sx) (hb : Below w.heap.size w w') : PairD K N w0 w' d e Md Me Wd We Sx := by
  obtain ⟨Sd, Se, h1, h2, h3, h4, h5⟩ := h
  exact ⟨Sd, Se, h1.below hb, h2.below hb, h3, h4.trans (hb.mono h4.size), fun g hg => ⟨(h5 g hg).1, (h5 g hg).2.1, Nat.lt_of_lt_of_le (h5 g hg).2.2 hb.size⟩⟩
theorem PairD.mono (h : PairD K N w0 w d e Md Me Wd We Sx) (hK : K ≤ K') (hN : N ≤ N') : PairD K' N' w0 w d e Md Me Wd We Sx := by
  obtain ⟨Sd, Se, h1, h2, h3, h4, h5⟩ := h
  exact ⟨Sd, Se, h1.mono hK hN, h2.mono hK hN, h3, h4, h5⟩
/-- more blocks apart from both -/
theorem PairD.more (h : PairD K N w0 w d e Md Me Wd We Sx) {Sx' : Nat → Prop} (hx : ∀ g, Sx' g → w.heap.size ≤ g ∧ g < w'.heap.size) (hb : Below w.heap.size w w') : PairD K N w0 w' d e Md Me Wd We Sx' := by
  obtain ⟨Sd, Se, h1, h2, h3, h4, h5⟩ := h
  exact ⟨Sd, Se, h1.below hb, h2.below hb, h3, h4.trans (hb.mono h4.size), fun g hg => ⟨fun e => by have := (h1.y.lt g e).2; have := (hx g hg).1; omega, fun e => by have := (h2.y.lt g e).2; have := (hx g hg).1; omega, (hx g hg).2⟩⟩
theorem PairD.less (h : PairD K N w0 w d e Md Me Wd We Sx) {Sx' : Nat → Prop} (hx : ∀ g, Sx' g → Sx g) : PairD K N w0 w d e Md Me Wd We Sx' := by
  obtain ⟨Sd, Se, h1, h2, h3, h4, h5⟩ := h
  exact ⟨Sd, Se, h1, h2, h3, h4, fun g hg => h5 g (hx g hg)⟩
theorem PairD.swap (h : PairD K N w0 w d e Md Me Wd We Sx) : PairD K N w0 w e d Me Md We Wd Sx := by
  obtain ⟨Sd, Se, h1, h2, h3, h4, h5⟩ := h
  exact ⟨Se, Sd, h2, h1, fun g a b => h3 g b a, h4, fun g hg => ⟨(h5 g hg).2.1, (h5 g hg).1, (h5 g hg).2.2⟩⟩
/-- a call on the first -/
theorem PairD.left (h : PairD K N w0 w d e Md Me Wd We Sx) {f : FuncId} {args : Array Value} {v : Value} (hK : K ≤ K') (hN : N ≤ N')
    (hc : ∀ S, DV K N w w0.heap.size d Md Wd S → Calls Try.prog f args w (DE K' N' w w0.heap.size d v Md' Wd' S)) :
    Calls Try.prog f args w fun en w' => en = .returned v ∧ PairD K' N' w0 w' d e Md' Me Wd' We Sx ∧ Hid (∀ g, Sx g → w'.heap[g]? = w.heap[g]?) := by
  obtain ⟨Sd, Se, h1, h2, h3, h4, h5⟩ := h
  refine (hc Sd h1).mono ?_
  rintro en w' ⟨rfl, S', r1, r2, r3⟩
  refine ⟨rfl, ⟨S', Se, r1, (h2.keep r2.sz (fun g hg hs => r2.k g hg (fun e => h3 g e hs))).mono hK hN, fun g a b => ?_, h4.trans r3, fun g hg => ?_⟩, (show ∀ g, _ from fun g hg => r2.k g (h5 g hg).2.2 (h5 g hg).1)⟩
  · have := (h2.y.lt g b).2
    exact h3 g (r2.n g this a) b
  · obtain ⟨a1, a2, a3⟩ := h5 g hg
    exact ⟨fun e => a1 (r2.n g a3 e), a2, Nat.lt_of_lt_of_le a3 r2.sz⟩
end
end Go.Proofs.Ytbmgeomndfodpaa
