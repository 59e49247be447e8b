/-
  The yard's contracts, in the form that the laws take them in.
-/
import Derived.Test.YtbmgeomndfodpaaYardSame
namespace Go.Proofs.Ytbmgeomndfodpaa
open Go.RowKit Go.Mem Go.Proofs

structure YV (w : World) (B y : Nat) (m : List MF) (tk : List (Int × Int)) (S : Nat → Prop) : Prop where
  s : YS w B y m tk S
  g : Gd m
  b : B ≤ w.heap.size
/-- what a call on the yard ends in -/
def YE (w : World) (B y : Nat) (v : Value) (m : List MF) (tk : List (Int × Int)) (S : Nat → Prop) (e : Ending) (w' : World) : Prop := e = .returned v ∧ ∃ S', YV w' B y m tk S' ∧ Fp w w' S S' ∧ Below B w w'
section
variable {w w' : World} {B y : Nat} {m : List MF} {tk : List (Int × Int)} {S : Nat → Prop}
theorem YEnds.v {v : Value} {e : Ending} (h : YEnds w B y v m tk S e w') (hg : Gd m) (hB : B ≤ w.heap.size) : YE w B y v m tk S e w' := by
  obtain ⟨rfl, S', h1, h2, h3⟩ := h
  exact ⟨rfl, S', ⟨h1, hg, Nat.le_trans hB h3.size⟩, h2, h3⟩
theorem YV.below (h : YV w B y m tk S) (hb : Below w.heap.size w w') : YV w' B y m tk S := ⟨h.s.below hb, h.g, Nat.le_trans h.b hb.size⟩
theorem YV.drewN (h : YV w B y m tk S) (q : Nat) : YV (w.drewN q) B y m tk S := h.below (below_drewN (Below.refl _ _) q)
theorem YV.alloc (h : YV w B y m tk S) (o : Obj) : YV (w.alloc o) B y m tk S := h.below ((Below.refl _ _).alloc (Nat.le_refl _) o)
theorem YV.keep (h : YV w B y m tk S) (hs : w.heap.size ≤ w'.heap.size) (hk : ∀ g, g < w.heap.size → S g → w'.heap[g]? = w.heap[g]?) : YV w' B y m tk S := ⟨h.s.keep hk, h.g, Nat.le_trans h.b hs⟩
theorem newV (w : World) : Calls Try.prog 14 #[] w fun e w' => ∃ y S, e = .returned (.pointer (some ⟨y, 0, none⟩)) ∧ YV w' w.heap.size y [] [] S ∧ Below w.heap.size w w' := by
  refine (new_calls w).mono ?_
  rintro e w' ⟨y, S, rfl, h1, h2⟩
  exact ⟨y, S, rfl, ⟨h1, Gd.nil, h2.size⟩, h2⟩
theorem createV (h : YV w B y m tk S) (s : ByteArray) {no : Int} {m' : List MF} (h1 : createNo s m = no) (h2 : createM s m = m') (hs : s.size ≤ 9223372036854775807) : Calls Try.prog 15 #[.pointer (some ⟨y, 0, none⟩), .string s] w (YE w B y (.int .i64 no) m' tk S) := by
  subst h1 h2
  exact (create_calls h.s h.g s hs h.b).mono fun e w' he => he.v h.g.create h.b
theorem appendV (h : YV w B y m tk S) (s : ByteArray) (A : Option Addr) (n c : Nat) (p : List UInt8) {no : Int} {m' : List MF} (h1 : appendNo s p m = no) (h2 : appendM s p m = m') (hl : p.length = n) (hp : Sl w A (p.map B8)) : Calls Try.prog 16 #[.pointer (some ⟨y, 0, none⟩), .string s, .slice A n c] w (YE w B y (.int .i64 no) m' tk S) := by
  subst h1 h2
  exact (append_calls h.s h.g s A n c p hl hp h.b).mono fun e w' he => he.v h.g.append h.b
theorem renameV (h : YV w B y m tk S) (s t : ByteArray) {no : Int} {m' : List MF} (h1 : renameNo s t m = no) (h2 : renameM s t m = m') (ht : t.size ≤ 9223372036854775807) : Calls Try.prog 17 #[.pointer (some ⟨y, 0, none⟩), .string s, .string t] w (YE w B y (.int .i64 no) m' tk S) := by
  subst h1 h2
  exact (rename_calls h.s h.g s t ht h.b).mono fun e w' he => he.v h.g.rename h.b
theorem cutV (h : YV w B y m tk S) (s : ByteArray) (n : Int) {no : Int} {m' : List MF} (h1 : cutNo s n m = no) (h2 : cutM s n m = m') : Calls Try.prog 23 #[.pointer (some ⟨y, 0, none⟩), .string s, .int .i64 n] w (YE w B y (.int .i64 no) m' tk S) := by
  subst h1 h2
  exact (cut_calls h.s h.g s n h.b).mono fun e w' he => he.v h.g.cut h.b
theorem removeV (h : YV w B y m tk S) (s : ByteArray) {no : Int} {m' : List MF} (h1 : removeNo s m = no) (h2 : removeM s m = m') : Calls Try.prog 29 #[.pointer (some ⟨y, 0, none⟩), .string s] w (YE w B y (.int .i64 no) m' tk S) := by
  subst h1 h2
  exact (remove_calls h.s h.g s h.b).mono fun e w' he => he.v h.g.remove h.b
/-- Find's answer -/
def FE (w : World) (B y : Nat) (v : Value) (b : Bool) (m : List MF) (tk : List (Int × Int)) (S : Nat → Prop) (e : Ending) (w' : World) : Prop := e = .returned (.tuple #[v, .bool b]) ∧ YV w' B y m tk S ∧ Below w.heap.size w w'
theorem fndV (h : YV w B y m tk S) (s : ByteArray) {v : Value} {b : Bool} (h1 : findV s m = v) (h2 : (findM s m).isSome = b) : Calls Try.prog 20 #[.pointer (some ⟨y, 0, none⟩), .string s] w (FE w B y v b m tk S) := by
  subst h1 h2
  refine (find_calls h.s h.g s).mono ?_
  rintro e w' ⟨rfl, hb⟩
  exact ⟨rfl, h.below hb, hb⟩
theorem filesV (h : YV w B y m tk S) {l : List (Int × ByteArray × Int)} {n : Nat} (h1 : filesM m = l) (h2 : l.length = n) : Calls Try.prog 19 #[.pointer (some ⟨y, 0, none⟩)] w fun e w' => ∃ D c, e = .returned (.slice D n c) ∧ OwnB w' w.heap.size 31 3 D n c (flatG l) ∧ YV w' B y m tk S ∧ Below w.heap.size w w' := by
  subst h1 h2
  refine (files_calls h.s h.g).mono ?_
  rintro e w' ⟨D, c, rfl, ho, hb⟩
  exact ⟨D, c, rfl, ho, h.below hb, hb⟩
/-- Read's answer -/
def RE (w : World) (B y : Nat) (bs : List UInt8) (n : Nat) (no : Int) (m : List MF) (tk : List (Int × Int)) (S : Nat → Prop) (e : Ending) (w' : World) : Prop := ∃ (D : Option Addr) (c : Nat) (S' : Nat → Prop), e = .returned (.tuple #[.slice D n c, .int .i64 no]) ∧ OwnB w' w.heap.size 5 1 D n c (bs.map B8) ∧ YV w' B y m tk S' ∧ Fp w w' S S' ∧ Below B w w' ∧ ∀ g, D = some ⟨g, 0, none⟩ → ¬ S' g
theorem readV (h : YV w B y m tk S) (k a n : Int) {bs : List UInt8} {r : Nat} {no : Int} {tk' : List (Int × Int)} (h1 : readB k a n m = bs) (h2 : bs.length = r) (h3 : readNo k a n m = no) (h4 : readT k a n m tk = tk') (hl : tk.length ≤ 100000) (ht0 : 0 ≤ takenM k tk) (ht1 : takenM k tk ≤ 4611686018427387904) : Calls Try.prog 21 #[.pointer (some ⟨y, 0, none⟩), .int .i64 k, .int .i64 a, .int .i64 n] w (RE w B y bs r no m tk' S) := by
  subst h1 h2 h3 h4
  refine (read_calls h.s h.g k a n hl ht0 ht1 h.b).mono ?_
  rintro e w' ⟨D, c, S', rfl, ho, hy, hf, hb, hn⟩
  exact ⟨D, c, S', rfl, ho, ⟨hy, h.g, Nat.le_trans h.b hb.size⟩, hf, hb, hn⟩
theorem takenV (h : YV w B y m tk S) (k : Int) {v : Int} (h1 : takenM k tk = v) (hl : tk.length ≤ 1000000) : Calls Try.prog 22 #[.pointer (some ⟨y, 0, none⟩), .int .i64 k] w fun e w' => e = .returned (.int .i64 v) ∧ ∃ q, w' = w.drewN q := by
  subst h1
  exact taken_calls h.s hl k
end
end Go.Proofs.Ytbmgeomndfodpaa
