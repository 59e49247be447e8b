/-
  The disk's contracts, in the form that the laws take them in.
-/
import Derived.Test.YtbmgeomndfodpaaDiskApp
namespace Go.Proofs.Ytbmgeomndfodpaa
open Go.RowKit Go.Mem Go.Proofs

section
variable {w w' : World} {B d K N : Nat} {M : FS} {W : List MW} {S : Nat → Prop}
theorem dappendV (h : DV K N w B d M W S) (k : ByteArray) (A : Option Addr) (n c : Nat) (p : List UInt8) {no : Int} {W' : List MW} {K' N' : Nat} (h1 : dappNo k p (replay M W) = no) (h2 : W ++ dappW k p (replay M W) = W') (hl : p.length = n) (hp : Sl w A (p.map B8)) (hpS : ∀ g o sp, A = some ⟨g, o, sp⟩ → ¬ S g) (hks : k.size ≤ 9223372036854775807) (hK' : K' = K + 1) (hN' : N' = N + 16777217) (hK : K' ≤ 90000) (hN : N' ≤ 100000000000) : Calls Try.prog 34 #[.pointer (some ⟨d, 0, none⟩), .string k, .slice A n c] w (DE K' N' w B d (.int .i64 no) M W' S) := by
  subst h1 h2 hK' hN'
  exact dappend_calls h k A n c p hl hp (fun g o sp e _ => hpS g o sp e) hks hK hN
theorem dappendW {w0 : World} (h : DV K N w w0.heap.size d M W S) (k : ByteArray) (A : Option Addr) (n c : Nat) (p : List UInt8) {no : Int} {W' : List MW} {K' N' : Nat} (h1 : dappNo k p (replay M W) = no) (h2 : W ++ dappW k p (replay M W) = W') (hl : p.length = n) (hp : Sl w0 A (p.map B8)) (hb : Below w0.heap.size w0 w) (hks : k.size ≤ 9223372036854775807) (hK' : K' = K + 1) (hN' : N' = N + 16777217) (hK : K' ≤ 90000) (hN : N' ≤ 100000000000) : Calls Try.prog 34 #[.pointer (some ⟨d, 0, none⟩), .string k, .slice A n c] w (DE K' N' w w0.heap.size d (.int .i64 no) M W' S) := by
  subst h1 h2 hK' hN'
  refine dappend_calls h k A n c p hl (hp.below hb) (fun g o sp e h1 hs => ?_) hks hK hN
  obtain ⟨b, o', e', hc⟩ := hp 0 (B8 p[0]) (by rw [List.getElem?_map, List.getElem?_eq_getElem (by omega)]; rfl)
  rw [e] at e'; injection e' with e'; injection e' with e'
  have h2 := (h.y.lt g hs).1
  have h3 : b < w0.heap.size := lt_of_cell hc
  omega
theorem drenameV (h : DV K N w B d M W S) (k t : ByteArray) {no : Int} {W' : List MW} {N' : Nat} (h1 : drenNo k t (replay M W) = no) (h2 : W ++ drenW k t (replay M W) = W') (hts : t.size ≤ 9223372036854775807) (hK : K ≤ 90000) (hN' : N' = N + 1) (hN : N' ≤ 100000000000) : Calls Try.prog 36 #[.pointer (some ⟨d, 0, none⟩), .string k, .string t] w (DE K N' w B d (.int .i64 no) M W' S) := by
  subst h1 h2 hN'
  exact drename_calls h k t hts hK (by omega)
theorem dcutV (h : DV K N w B d M W S) (k : ByteArray) (n : Int) {no : Int} {W' : List MW} {N' : Nat} (h1 : dcutNo k n (replay M W) = no) (h2 : W ++ dcutW k n (replay M W) = W') (hK : K ≤ 90000) (hN' : N' = N + 1) (hN : N' ≤ 100000000000) : Calls Try.prog 42 #[.pointer (some ⟨d, 0, none⟩), .string k, .int .i64 n] w (DE K N' w B d (.int .i64 no) M W' S) := by
  subst h1 h2 hN'
  exact dcut_calls h k n hK (by omega)
theorem dremoveV (h : DV K N w B d M W S) (k : ByteArray) {no : Int} {W' : List MW} {N' : Nat} (h1 : dremNo k (replay M W) = no) (h2 : W ++ dremW k (replay M W) = W') (hK : K ≤ 90000) (hN' : N' = N + 1) (hN : N' ≤ 100000000000) : Calls Try.prog 43 #[.pointer (some ⟨d, 0, none⟩), .string k] w (DE K N' w B d (.int .i64 no) M W' S) := by
  subst h1 h2 hN'
  exact dremove_calls h k hK (by omega)
theorem dmarkV (h : DV K N w B d M W S) {M' : FS} (h1 : replay M W = M') (hK : K ≤ 90000) : Calls Try.prog 41 #[.pointer (some ⟨d, 0, none⟩)] w (DE K 0 w B d (.tuple #[]) M' [] S) := by
  subst h1
  exact mark_calls h hK
theorem dbackV (h : DV K N w B d M W S) (n : Int) {M' : FS} (h1 : replay M (W.take (backN n W.length)) = M') (hK : K ≤ 90000) (hN : N ≤ 100000000000) : Calls Try.prog 37 #[.pointer (some ⟨d, 0, none⟩), .int .i64 n] w (DE K 0 w B d (.tuple #[]) M' [] S) := by
  subst h1
  exact back_calls h n hK hN
theorem dcountV (h : DV K N w B d M W S) {n : Nat} (h1 : W.length = n) : Calls Try.prog 35 #[.pointer (some ⟨d, 0, none⟩)] w fun e w' => e = .returned (.int .i64 (n : Int)) ∧ w' = w := by
  subst h1
  exact count_calls h
theorem dtotalV (h : DV K N w B d M W S) {n : Nat} (h1 : totF (replay M W) = n) (hK : K ≤ 90000) : Calls Try.prog 46 #[.pointer (some ⟨d, 0, none⟩)] w fun e w' => e = .returned (.int .i64 (n : Int)) ∧ ∃ q, w' = w.drewN q := by
  subst h1
  exact total_calls h hK
/-- Read's answer -/
def RdV (K N : Nat) (w : World) (B d : Nat) (M : FS) (W : List MW) (S : Nat → Prop) (bs : List UInt8) (n : Nat) (b : Bool) (e : Ending) (w' : World) : Prop := ∃ (D : Option Addr) (c : Nat), e = .returned (.tuple #[.slice D n c, .bool b]) ∧ OwnB w' w.heap.size 5 1 D n c (bs.map B8) ∧ DV K N w' B d M W S ∧ Below w.heap.size w w'
theorem dreadV (h : DV K N w B d M W S) (hK : K ≤ 90000) (k : ByteArray) {bs : List UInt8} {n : Nat} {b : Bool} (h1 : bytesF k (replay M W) = bs) (h2 : bs.length = n) (h3 : (getF k (replay M W)).isSome = b) : Calls Try.prog 38 #[.pointer (some ⟨d, 0, none⟩), .string k] w (RdV K N w B d M W S bs n b) := by
  refine (read_calls h hK k h1 h2 h3).mono ?_
  rintro e w' ⟨D, c, rfl, o, hb⟩
  exact ⟨D, c, rfl, o, h.below hb, hb⟩
/-- the names' list -/
def NmV (K N : Nat) (w : World) (B d : Nat) (M : FS) (W : List MW) (S : Nat → Prop) (l : List ByteArray) (n : Nat) (e : Ending) (w' : World) : Prop := ∃ D' c', e = .returned (.slice D' n c') ∧ OwnB w' w.heap.size 9 1 D' n c' (l.map Value.string) ∧ DV K N w' B d M W S ∧ Below w.heap.size w w'
theorem dnamesV (h : DV K N w B d M W S) (hK : K ≤ 90000) {l : List ByteArray} {n : Nat} (h1 : (replay M W).map Prod.fst = l) (h2 : l.length = n) : Calls Try.prog 40 #[.pointer (some ⟨d, 0, none⟩)] w (NmV K N w B d M W S l n) := by
  subst h1 h2
  refine (names_calls h hK).mono ?_
  rintro e w' ⟨D', c', rfl, o, h2, hb⟩
  refine ⟨D', c', by rw [List.length_map], ?_, h2, hb⟩
  rw [List.length_map, List.map_map]
  exact o
end
end Go.Proofs.Ytbmgeomndfodpaa
