/-
  The disk's raw writes: what apply makes of the files.
-/
import Derived.Test.YtbmgeomndfodpaaFtab
import Derived.Deep.DeepCutAuto
import Derived.Deep.QuietTactic
import Derived.Deep.RegionHeld3
namespace Go.Proofs.Ytbmgeomndfodpaa
open Go.RowKit Go.Mem Go.Proofs

/-- what Get tells of a name -/
def Gets (F : FS) (vs : List Sb) (k : ByteArray) (s : Sb) (b : Bool) : Prop := (b = true ∧ ∃ (i : Nat) (bs : List UInt8), F[i]? = some (k, bs) ∧ vs[i]? = some s) ∨ (b = false ∧ s = ⟨none, 0, 0⟩ ∧ k ∉ F.map Prod.fst)
/-- the bytes of a file; none if it isn't there -/
def bytesF (k : ByteArray) (F : FS) : List UInt8 := (getF k F).getD []
theorem gets_ex {F : FS} {vs : List Sb} (hl : vs.length = F.length) (k : ByteArray) : ∃ s b, Gets F vs k s b := by
  by_cases h : k ∈ F.map Prod.fst
  · obtain ⟨i, hi⟩ := List.mem_iff_getElem?.1 h
    obtain ⟨v, hv⟩ := get_names hi
    have hlt := (List.getElem?_eq_some_iff.1 hv).1
    exact ⟨vs[i], true, Or.inl ⟨rfl, i, v, hv, List.getElem?_eq_getElem _⟩⟩
  · exact ⟨⟨none, 0, 0⟩, false, Or.inr ⟨rfl, rfl, h⟩⟩
section
variable {w w' : World} {B p : Nat} {DK DV : Option Addr} {F : FS} {vs : List Sb} {k : ByteArray} {s : Sb} {b : Bool}
theorem FT.get (h : FT w B p DK DV F vs) (hg : Gets F vs k s b) (hn : F.length ≤ 1000000) :
    Calls Try.prog 69 #[.pointer (some ⟨p, 0, none⟩), .string k] w fun e w' => e = .returned (.tuple #[.slice s.d s.n s.c, .bool b]) ∧ ∃ q, w' = w.drewN q := by
  rcases hg with ⟨rfl, i, bs, hx, hs⟩ | ⟨rfl, rfl, hk⟩
  · exact h.get_yes hx hs hn
  · exact h.get_no hk hn
theorem FT.gview (h : FT w B p DK DV F vs) (hg : Gets F vs k s b) : s.n = (bytesF k F).length ∧ s.c ≤ 9223372036854775807 ∧ Vw w B 5 1 s.d s.n s.c ((bytesF k F).map B8) := by
  unfold bytesF
  rcases hg with ⟨rfl, i, bs, hx, hs⟩ | ⟨rfl, rfl, hk⟩
  · rw [getF_get h.r hx]; exact h.vw i s _ hs hx
  · rw [getF_none hk]; exact ⟨rfl, by decide, Vw.nil _ _ _ _⟩
theorem FT.gap (h : FT w B p DK DV F vs) (hg : Gets F vs k s b) (j : Nat) (t : Sb) (hj : vs[j]? = some t) (hne : (F.map Prod.fst)[j]? ≠ some k) (g : Nat) (he : s.d = some ⟨g, 0, none⟩) : t.d ≠ some ⟨g, 0, none⟩ := by
  rcases hg with ⟨rfl, i, bs, hx, hs⟩ | ⟨rfl, rfl, hk⟩
  · exact h.ap i j s t (fun e => hne (by rw [← e, List.getElem?_map, hx]; rfl)) hs hj g he
  · cases he
theorem Gets.mem (hg : Gets F vs k s b) : s ∈ vs ∨ s.d = none := by
  rcases hg with ⟨rfl, i, bs, hx, hs⟩ | ⟨rfl, rfl, hk⟩
  · exact .inl (List.mem_of_getElem? hs)
  · exact .inr rfl
end
/-- between two worlds: but the table's own blocks, and X's behind cell m, nothing has turned -/
structure Mid (w W : World) (B p : Nat) (DK DV DK' DV' X : Option Addr) (m : Nat) : Prop where
  hd : Head w W X m
  k : ∀ g, g < w.heap.size → g ≠ p → DK ≠ some ⟨g, 0, none⟩ → DV ≠ some ⟨g, 0, none⟩ → X ≠ some ⟨g, 0, none⟩ → W.heap[g]? = w.heap[g]?
  sz : w.heap.size ≤ W.heap.size
  nk : Nw w DK DK'
  nv : Nw w DV DV'
  bb : Below B w W
theorem Mid.of_below {w W : World} {B p : Nat} {DK DV : Option Addr} (h : Below w.heap.size w W) (hB : B ≤ w.heap.size) : Mid w W B p DK DV DK DV none 0 :=
  ⟨Head.of_below h, fun g hg _ _ _ _ => h.block g hg, h.size, Nw.refl _ _, Nw.refl _ _, h.mono hB⟩
/-- then the table turns -/
theorem Mid.then {w W W' : World} {B p : Nat} {DK DV DK' DV' DK'' DV'' X : Option Addr} {m : Nat} {F : FS} {vs : List Sb} (h : Mid w W B p DK DV DK' DV' X m) (hX : ∀ g, X = some ⟨g, 0, none⟩ → ∃ cs, Blk w g 5 cs) (hf : FT W B p DK' DV' F vs) (kp : Kp W W' p DK' DV') (nk : Nw W DK' DK'') (nv : Nw W DV' DV'') (bb : Below B W W') : Mid w W' B p DK DV DK'' DV'' X m := by
  refine ⟨fun g t cs hg hb => ?_, fun g hg h1 h2 h3 h4 => ?_, Nat.le_trans h.sz bb.size, h.nk.trans nk h.sz, h.nv.trans nv h.sz, h.bb.trans bb⟩
  · obtain ⟨cs', b1, l1, t1⟩ := h.hd g t cs hg hb
    obtain ⟨cs2, b2⟩ := hX g hg
    have ht : t = 5 := by
      unfold Blk at hb b2
      rw [hb] at b2
      injection b2 with b2; injection b2
    subst ht
    exact ⟨cs', (hf.kp kp b1 (by decide) (by decide) (by decide)).trans b1, l1, t1⟩
  · exact (kp g (Nat.lt_of_lt_of_le hg h.sz) h1 (h.nk.ne hg h2) (h.nv.ne hg h3)).trans (h.k g hg h1 h2 h3 h4)
/-- what a raw write ends in: the files, and where their slices are from; X's block has turned behind cell m alone -/
def ApE (w : World) (B p : Nat) (DK DV : Option Addr) (vs : List Sb) (F' : FS) (e : Ending) (w' : World) : Prop := e = .returned (.tuple #[]) ∧ ∃ DK' DV' vs' X m, FT w' B p DK' DV' F' vs' ∧ (∀ t ∈ vs', Off w vs t) ∧ (X = none ∨ ∃ s ∈ vs, X = s.d ∧ m = s.n ∧ s.n < s.c) ∧ Mid w w' B p DK DV DK' DV' X m
/-- .. out of the table's last turn -/
theorem FTE.ape {w W W' : World} {B p : Nat} {DK DV DK' DV' X : Option Addr} {m : Nat} {F F' : FS} {vs vs1 : List Sb} {P : Sb → Prop} {e : Ending} (he : FTE W B p DK' DV' F' P e W') (h : Mid w W B p DK DV DK' DV' X m) (hf : FT W B p DK' DV' F vs1) (hX : X = none ∨ ∃ s ∈ vs, X = s.d ∧ m = s.n ∧ s.n < s.c) (hXb : ∀ g, X = some ⟨g, 0, none⟩ → ∃ cs, Blk w g 5 cs) (hP : ∀ t, P t → Off w vs t) : ∃ b, e = .returned (.bool b) ∧ Hid (ApE w B p DK DV vs F' (.returned (.tuple #[])) W') := by
  obtain ⟨⟨b, rfl⟩, DK2, DV2, vs2, f2, p2, kp, nk, nv, bb⟩ := he
  exact ⟨b, rfl, (show ApE _ _ _ _ _ _ _ _ _ from ⟨rfl, DK2, DV2, vs2, X, m, f2, fun t ht => hP t (p2 t ht), hX, h.then hXb hf kp nk nv bb⟩)⟩
/-- a write's cells -/
def wcells (kind : Int) (k t : ByteArray) (n : Int) (s : Sb) : Array Value := #[.int .i64 kind, .string k, .string t, .int .i64 n, .slice s.d s.n s.c]
section
variable {w w' : World} {B p d : Nat} {DK DV : Option Addr} {F : FS} {vs : List Sb} {c1 c2 : Value}
set_option maxRecDepth 100000 in
set_option maxHeartbeats 1600000 in
theorem apply_create (h : FT w B p DK DV F vs) (hd : Blk w d 116 [.pointer (some ⟨p, 0, none⟩), c1, c2]) (k t : ByteArray) (n : Int) (s : Sb) (hn : F.length ≤ 100000) (hBw : B ≤ w.heap.size) :
    Calls Try.prog 72 #[.pointer (some ⟨d, 0, none⟩), .agg (wcells 0 k t n s)] w (ApE w B p DK DV vs (setF k [] F)) := by
  obtain ⟨s1, b, hg⟩ := gets_ex h.len k
  obtain ⟨sd, sn, sc⟩ := s
  obtain ⟨gd, gn, gc⟩ := s1
  unfold wcells
  have hal := (Below.refl w.heap.size w).alloc (Nat.le_refl _) (.cells #[.int .i64 0, .string k, .string t, .int .i64 n, .slice sd sn sc] 119)
  have hbx := Blk.new w 119 #[.int .i64 0, .string k, .string t, .int .i64 n, .slice sd sn sc]
  have hd1 := hd.below hal hd.lt
  have h1 := h.below hal
  have HG := Lib.hid (fun q => (h1.below (below_drewN (Below.refl _ _) q)).get hg (by omega))
  have H1 := Lib.hid h1
  have HW := Lib.hid hal
  clear h h1 hal
  go_enter Try.func72, Try.ntmps72
  go_upto_region 1 with fail
  generalize w.alloc (.cells #[.int .i64 0, .string k, .string t, .int .i64 n, .slice sd sn sc] 119) = w1 at *
  have c0 := hd1.cell 0
  have b0 := hbx.cell 0
  have b1 := hbx.cell 1
  simp only [List.getElem?_cons_zero, List.getElem?_cons_succ] at c0 b0 b1
  go_quiet ((exact Calls.quiet_of (HG.out _)))
  have hd2 := hd1.drewN nq
  have hbx2 := hbx.drewN nq
  have h2 := H1.out.below (below_drewN (Below.refl _ _) nq)
  have hbw := below_drewN HW.out nq
  clear HG H1 HW c0 b0 b1 hd1 hbx
  generalize w1.drewN nq = w2 at *
  have c0 := hd2.cell 0
  have b0 := hbx2.cell 0
  have b1 := hbx2.cell 1
  simp only [List.getElem?_cons_zero, List.getElem?_cons_succ] at c0 b0 b1
  have HS : Hid (Calls Try.prog 97 #[.pointer (some ⟨p, 0, none⟩), .string k, .slice none 0 0] (w2.drewN 1) fun e w' => ∃ b, e = .returned (.bool b) ∧ Hid (ApE w B p DK DV vs (setF k [] F) (.returned (.tuple #[])) w')) := (show Calls _ _ _ _ _ from by
    have hbd := below_drewN hbw 1
    have h3 := h2.below (below_drewN (Below.refl _ _) 1)
    have hB3 : B ≤ (w2.drewN 1).heap.size := Nat.le_trans hBw hbd.size
    refine (h3.set k ⟨none, 0, 0⟩ [] rfl (by decide) (Vw.nil _ _ _ _) (fun j t _ _ g hg => by cases hg) hn hB3).mono fun e w' he => ?_
    exact he.ape (Mid.of_below hbd hBw) h3 (.inl rfl) (fun g hg => by cases hg) (fun t ht => by
      rcases ht with rfl | ht
      · exact .inr (.inl rfl)
      · exact .inl ht))
  clear h2 hbw
  go_upto_region 4 with fail
  go_region_with (go_at_call 97; refine HS.out.mono ?_; rintro e w3 ⟨bb, rfl, HFin⟩)
  all_goals
    go_wp2_with fail
    go_end0
    exact HFin.out
end
end Go.Proofs.Ytbmgeomndfodpaa
