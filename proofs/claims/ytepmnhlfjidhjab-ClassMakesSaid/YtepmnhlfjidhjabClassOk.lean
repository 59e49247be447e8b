/-
  What class.Make, Not and Both answer, named: contracts in their last form.
-/
import Derived.Test.YtepmnhlfjidhjabClassNot
import Derived.Test.YtepmnhlfjidhjabClassM2
namespace Go.Cls
theorem ins_len (g : Int × Int) (l : List (Int × Int)) : (ins g l).length = l.length + 1 := by
  have := (ins_perm g l).length_eq
  simpa using this
theorem joinZ_len : ∀ (l : List (Int × Int)) (z : Int × Int), (joinZ z l).length ≤ l.length + 1 := by
  intro l
  induction l with
  | nil => intro z; exact Nat.le_refl _
  | cons g l ih =>
    intro z
    unfold joinZ
    split
    · have := ih (z.1, max z.2 g.2); simp only [List.length_cons]; omega
    · have := ih g; simp only [List.length_cons]; omega
theorem join_len (l : List (Int × Int)) : (join l).length ≤ l.length := by
  cases l with
  | nil => exact Nat.le_refl _
  | cons g l => exact joinZ_len l g
theorem part_len' (g : Int × Int) (lo hi : Int) : (part g lo hi).length ≤ 1 := by
  unfold part
  split <;> simp
theorem parts_len (l : List (Int × Int)) : (parts l).length ≤ 2 * l.length := by
  induction l with
  | nil => exact Nat.le_refl _
  | cons g l ih =>
    have e : parts (g :: l) = (part g 0 0xd7ff ++ part g 0xe000 0x10ffff) ++ parts l := by simp [parts]
    rw [e, List.length_append, List.length_append, List.length_cons]
    have := part_len' g 0 0xd7ff
    have := part_len' g 0xe000 0x10ffff
    omega
theorem mkR_len (l : List (Int × Int)) : (mkR l).length ≤ 2 * l.length := by
  have h1 := join_len (srt (parts l))
  have h2 := (srt_ok (parts l) 0 (fun _ hg => parts_low hg)).2.length_eq
  have h3 := parts_len l
  unfold mkR
  omega
theorem gaps_len : ∀ (c : List (Int × Int)) (n : Int), (gaps n c).length = c.length + 1 := by
  intro c
  induction c with
  | nil => intro n; rfl
  | cons g c ih => intro n; show (_ :: gaps (g.2 + 1) c).length = _; rw [List.length_cons, ih, List.length_cons]
theorem nt_len (l : List (Int × Int)) : (nt l).length ≤ 4 * l.length + 2 := by
  have h1 := mkR_len (gaps 0 (mkR l))
  have h2 := gaps_len (mkR l) 0
  have h3 := mkR_len l
  unfold nt
  omega
theorem bt_len (a b : List (Int × Int)) : (bt a b).length ≤ 16 * (a.length + b.length) + 18 := by
  have h1 := nt_len (nt a ++ nt b)
  rw [List.length_append] at h1
  have h2 := nt_len a
  have h3 := nt_len b
  unfold bt
  omega
end Go.Cls
namespace Go.Proofs.Ytepmnhlfjidhjab
open Go.RowKit Go.Mem

theorem mk_in (l : List (Int × Int)) : In32 (Cls.mkR l) := made_in (Cls.made_mk l)
theorem nt_in (l : List (Int × Int)) : In32 (Cls.nt l) := made_in (Cls.nt_made l)
theorem bt_in (a b : List (Int × Int)) : In32 (Cls.bt a b) := nt_in _
theorem make_ok (l : List (Int × Int)) (A : Option Addr) (n c : Nat) (w : World) (hl : l.length = n) (hn : n ≤ 100000) (hi : In32 l) (hs : Sl w A (flatR l)) :
    Calls Try.prog 30 #[.slice A n c] w (RangesEnd w w.heap.size (Cls.mkR l)) :=
  (make_calls l A n c w hl (by omega) hi hs).mono (by unfold MadeEnds; rintro e w' ⟨c, h1, _, h3⟩; rw [h1.eq] at h3; exact h3)
theorem not_ok (l : List (Int × Int)) (A : Option Addr) (n c : Nat) (w : World) (hl : l.length = n) (hn : n ≤ 100000) (hi : In32 l) (hs : Sl w A (flatR l)) :
    Calls Try.prog 32 #[.slice A n c] w (RangesEnd w w.heap.size (Cls.nt l)) :=
  (not_calls l A n c w hl hn hi hs).mono (by unfold NotEnds; rintro e w' ⟨c, d, h1, h2, _, h3⟩; rw [Cls.nt_of h1 h2] at h3; exact h3)
theorem both_ok (a b : List (Int × Int)) (A E : Option Addr) (n m c f : Nat) (w : World) (hl : a.length = n) (hn : n ≤ 10000) (hi : In32 a) (hs : Sl w A (flatR a)) (hl2 : b.length = m) (hm : m ≤ 10000) (hi2 : In32 b) (hs2 : Sl w E (flatR b)) :
    Calls Try.prog 33 #[.slice A n c, .slice E m f] w (RangesEnd w w.heap.size (Cls.bt a b)) :=
  (both_calls a b A E n m c f w hl hn hi hs hl2 hm hi2 hs2).mono (by
    unfold BothEnds
    rintro e w' ⟨ca, da, cb, db, cc, d, h1, h2, h3, h4, h5, h6, _, h7⟩
    rw [Cls.nt_of h5 h6, Cls.nt_of h1 h2, Cls.nt_of h3 h4] at h7
    exact h7)
end Go.Proofs.Ytepmnhlfjidhjab
