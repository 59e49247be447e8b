/-
  The yard's state: two tables, each file's bytes a slice of its own.
-/
import Derived.Test.YtbmgeomndfodpaaYardNew
namespace Go.Proofs.Ytbmgeomndfodpaa
open Go.RowKit Go.Mem Go.Proofs

/-- a file, as the document has it -/
structure MF where
  ino : Int
  name : ByteArray
  data : List UInt8
/-- the yard in block y: files m, by rising numbers; tk: how much was read of which number -/
structure Yd (w : World) (B y : Nat) (m : List MF) (tk : List (Int × Int)) (pF pT : Nat) (DK DV DK2 DV2 : Option Addr) (vs : List Fl) : Prop where
  b : Blk w y 95 [.pointer (some ⟨pF, 0, none⟩), .pointer (some ⟨pT, 0, none⟩)]
  yB : B ≤ y
  f : TbIF w B pF DK DV (m.map MF.ino) vs
  t : TbII w B pT DK2 DV2 (tk.map Prod.fst) (tk.map Prod.snd)
  rf : Tab.Rising ltI (m.map MF.ino)
  rt : Tab.Rising ltI (tk.map Prod.fst)
  own : ∀ (i : Nat) (f : Fl) (x : MF), vs[i]? = some f → m[i]? = some x → f.name = x.name ∧ f.n = x.data.length ∧ OwnB w B 5 1 f.d f.n f.c (x.data.map B8)
  ap : ∀ (i j : Nat) (f g : Fl), i ≠ j → vs[i]? = some f → vs[j]? = some g → ∀ b, f.d = some ⟨b, 0, none⟩ → g.d ≠ some ⟨b, 0, none⟩
  kk : ∀ b, DK = some ⟨b, 0, none⟩ → DK2 ≠ some ⟨b, 0, none⟩ ∧ DV2 ≠ some ⟨b, 0, none⟩
theorem Yd.len {w : World} {B y : Nat} {m : List MF} {tk : List (Int × Int)} {pF pT : Nat} {DK DV DK2 DV2 : Option Addr} {vs : List Fl} (h : Yd w B y m tk pF pT DK DV DK2 DV2 vs) : vs.length = m.length := by
  obtain ⟨_, _, _, he⟩ := h.f
  rw [List.length_map] at he; exact he.symm
theorem Yd.below {w w' : World} {B y : Nat} {m : List MF} {tk : List (Int × Int)} {pF pT : Nat} {DK DV DK2 DV2 : Option Addr} {vs : List Fl} (h : Yd w B y m tk pF pT DK DV DK2 DV2 vs) (hb : Below w.heap.size w w') : Yd w' B y m tk pF pT DK DV DK2 DV2 vs :=
  ⟨h.b.below hb h.b.lt, h.yB, h.f.below hb, h.t.below hb, h.rf, h.rt, fun i f x h1 h2 => by
    obtain ⟨a, b, d⟩ := h.own i f x h1 h2; exact ⟨a, b, d.below hb⟩, h.ap, h.kk⟩
/-- a new yard -/
theorem Yd.new {w w' : World} {e : Ending} (h : NewEndsY w e w') : ∃ y pF pT, e = .returned (.pointer (some ⟨y, 0, none⟩)) ∧ Yd w' w.heap.size y [] [] pF pT none none none none [] ∧ Below w.heap.size w w' := by
  obtain ⟨y, pF, pT, rfl, h1, h2, h3, hb, hf, ht, hB⟩ := h
  exact ⟨y, pF, pT, rfl, ⟨hb, by omega, hf, ht, List.Pairwise.nil, List.Pairwise.nil, fun i f x h => by simp at h, fun i j f g _ h => by simp at h, fun b h => by cases h⟩, hB⟩
/-- the number of the file with a name; 0 if there is none -/
def nameNo (s : ByteArray) : List MF → Int
  | [] => 0
  | x :: m => if x.name = s then x.ino else nameNo s m
theorem Yd.named {w : World} {B y : Nat} {m : List MF} {tk : List (Int × Int)} {pF pT : Nat} {DK DV DK2 DV2 : Option Addr} {vs : List Fl} (h : Yd w B y m tk pF pT DK DV DK2 DV2 vs) (s : ByteArray) : namedN (m.map MF.ino) vs s = nameNo s m := by
  have hl := h.len
  have ho : ∀ (i : Nat) (f : Fl) (x : MF), vs[i]? = some f → m[i]? = some x → f.name = x.name := fun i f x h1 h2 => (h.own i f x h1 h2).1
  clear h
  unfold namedN
  induction m generalizing vs with
  | nil => rfl
  | cons x m ih =>
    cases vs with
    | nil => simp at hl
    | cons f vs =>
      show (if f.name = s then x.ino else namedL s ((m.map MF.ino).zip vs)) = if x.name = s then x.ino else nameNo s m
      rw [ho 0 f x rfl rfl, ih (by simpa using hl) (fun i f x h1 h2 => ho (i + 1) f x (by simpa using h1) (by simpa using h2))]
theorem Yd.named_calls {w : World} {B y : Nat} {m : List MF} {tk : List (Int × Int)} {pF pT : Nat} {DK DV DK2 DV2 : Option Addr} {vs : List Fl} (h : Yd w B y m tk pF pT DK DV DK2 DV2 vs) (hm : m.length ≤ 1000000) (s : ByteArray) :
    Calls Try.prog 50 #[.pointer (some ⟨y, 0, none⟩), .string s] w fun e w' => e = .returned (.int .i64 (nameNo s m)) ∧ Yd w' B y m tk pF pT DK DV DK2 DV2 vs ∧ Below w.heap.size w w' := by
  refine (Go.Proofs.Ytbmgeomndfodpaa.named_calls B y pF pT DK DV _ vs s w h.b h.f h.rf (by rw [List.length_map]; exact hm)).mono ?_
  rintro e w' ⟨rfl, hb⟩
  exact ⟨by rw [h.named], h.below hb, hb⟩
end Go.Proofs.Ytbmgeomndfodpaa
