/-
  The contracts of a table's methods: keys int, values files (two cells each).
-/
import Derived.Test.YtbmgeomndfodpaaTabW2
import Derived.Test.YtbmgeomndfodpaaTabLib2
import Derived.Test.YtbmgeomndfodpaaDelF
import Derived.Test.YtbmgeomndfodpaaFlat
import Derived.BigQuiet
namespace Go.Proofs.Ytbmgeomndfodpaa
open Go.RowKit Go.Mem Go.Proofs

/-- a file, as its cells have it -/
structure Fl where
  name : ByteArray
  d : Option Addr
  n : Nat
  c : Nat
def Fl.cells (f : Fl) : List Value := [.string f.name, .slice f.d f.n f.c]
def Fl.val (f : Fl) : Value := .agg #[.string f.name, .slice f.d f.n f.c]
def flatF (l : List Fl) : List Value := l.flatMap Fl.cells
theorem flatF_len (l : List Fl) : (flatF l).length = l.length * 2 := flat_len (F := Fl.cells) (m := 2) (fun _ => rfl) l
theorem flatF_at {l : List Fl} {k : Nat} {f : Fl} (h : l[k]? = some f) : (flatF l)[k * 2]? = some (.string f.name) ∧ (flatF l)[k * 2 + 1]? = some (.slice f.d f.n f.c) :=
  ⟨by have := flat_at (F := Fl.cells) (m := 2) (fun _ => rfl) h (q := 0) (by decide); exact this, by have := flat_at (F := Fl.cells) (m := 2) (fun _ => rfl) h (q := 1) (by decide); exact this⟩
theorem flatF_take (l : List Fl) (i : Nat) : (flatF l).take (i * 2) = flatF (l.take i) := by
  induction l generalizing i with
  | nil => simp [flatF]
  | cons x l ih =>
    cases i with
    | zero => simp [flatF]
    | succ i =>
      have : (flatF (x :: l)) = .string x.name :: .slice x.d x.n x.c :: flatF l := rfl
      rw [this, show (i + 1) * 2 = i * 2 + 1 + 1 by omega, List.take_succ_cons, List.take_succ_cons, ih]
      rfl
theorem flatF_drop (l : List Fl) (i : Nat) : (flatF l).drop (i * 2) = flatF (l.drop i) := by
  induction l generalizing i with
  | nil => simp [flatF]
  | cons x l ih =>
    cases i with
    | zero => simp [flatF]
    | succ i =>
      have : (flatF (x :: l)) = .string x.name :: .slice x.d x.n x.c :: flatF l := rfl
      rw [this, show (i + 1) * 2 = i * 2 + 1 + 1 by omega, List.drop_succ_cons, List.drop_succ_cons, ih]
      rfl
theorem flatF_app (l m : List Fl) : flatF (l ++ m) = flatF l ++ flatF m := List.flatMap_append
theorem flatF_ins (l : List Fl) (i : Nat) (x : Fl) : (flatF l).take (i * 2) ++ (x.cells ++ (flatF l).drop (i * 2)) = flatF (l.take i ++ x :: l.drop i) := by
  rw [flatF_take, flatF_drop, flatF_app]; rfl
theorem flatF_del (l : List Fl) (i : Nat) : (flatF l).take (i * 2) ++ (flatF l).drop ((i + 1) * 2) = flatF (l.take i ++ l.drop (i + 1)) := by
  rw [flatF_take, flatF_drop, flatF_app]
theorem flatF_set {l : List Fl} {i : Nat} (h : i < l.length) (x : Fl) : ((flatF l).set (i * 2) (.string x.name)).set (i * 2 + 1) (.slice x.d x.n x.c) = flatF (l.set i x) := by
  induction l generalizing i with
  | nil => simp at h
  | cons y l ih =>
    cases i with
    | zero => rfl
    | succ i =>
      have h1 : flatF (y :: l) = .string y.name :: .slice y.d y.n y.c :: flatF l := rfl
      have h2 : flatF ((y :: l).set (i + 1) x) = .string y.name :: .slice y.d y.n y.c :: flatF (l.set i x) := rfl
      rw [h1, h2, show (i + 1) * 2 = i * 2 + 1 + 1 by omega, ← ih (by simpa using h)]
      rfl

def TbIF (w : World) (B p : Nat) (DK DV : Option Addr) (ks : List Int) (vs : List Fl) : Prop := ∃ cK cV, T2 w B 124 3 91 p DK ks.length cK (ks.map (Value.int .i64)) DV vs.length cV (flatF vs) ∧ ks.length = vs.length
theorem TbIF.below {w w' : World} {B p : Nat} {DK DV : Option Addr} {ks : List Int} {vs : List Fl} (h : TbIF w B p DK DV ks vs) (hb : Below w.heap.size w w') : TbIF w' B p DK DV ks vs := by
  obtain ⟨a, b, h1, h2⟩ := h; exact ⟨a, b, h1.below hb, h2⟩
theorem TbIF.drewN {w : World} {B p : Nat} {DK DV : Option Addr} {ks : List Int} {vs : List Fl} (h : TbIF w B p DK DV ks vs) (q : Nat) : TbIF (w.drewN q) B p DK DV ks vs := by
  obtain ⟨a, b, h1, h2⟩ := h; exact ⟨a, b, h1.drewN q, h2⟩
theorem TbIF.mono {w : World} {B B' p : Nat} {DK DV : Option Addr} {ks : List Int} {vs : List Fl} (h : TbIF w B p DK DV ks vs) (hB : B' ≤ B) : TbIF w B' p DK DV ks vs := by
  obtain ⟨a, b, h1, h2⟩ := h; exact ⟨a, b, h1.mono hB, h2⟩
/-- what a call on a table ends in -/
def TEndsIF (w : World) (B p : Nat) (DK DV : Option Addr) (v : Value) (ks : List Int) (vs : List Fl) (e : Ending) (w' : World) : Prop := e = .returned v ∧ ∃ DK' DV', TbIF w' B p DK' DV' ks vs ∧ Kp w w' p DK DV ∧ Nw w DK DK' ∧ Nw w DV DV' ∧ Below B w w'
theorem oneKIF (ks : List Int) : ∀ u ∈ ks.map (Value.int .i64), u.oneCell' = true := by intro u hu; obtain ⟨_, _, rfl⟩ := List.mem_map.1 hu; rfl
theorem oneVIF (vs : List Fl) : ∀ u ∈ flatF vs, u.oneCell' = true := by
  intro u hu
  obtain ⟨x, _, hx⟩ := List.mem_flatMap.1 hu
  simp [Fl.cells] at hx
  rcases hx with rfl | rfl <;> rfl

set_option maxRecDepth 100000 in
theorem newIF_calls (w : World) : Calls Try.prog 47 #[] w fun e w' => e = .returned (.pointer (some ⟨w.heap.size, 0, none⟩)) ∧ TbIF w' w.heap.size w.heap.size none none [] [] ∧ Below w.heap.size w w' := by
  have HFin : Hid (TbIF (w.alloc (.cells #[.slice none 0 0, .slice none 0 0] 124)) w.heap.size w.heap.size none none [] []) := (show TbIF _ _ _ _ _ _ _ from ⟨0, 0, ⟨Blk.new w 124 #[.slice none 0 0, .slice none 0 0], OwnB.nil _ _ _ _, OwnB.nil _ _ _ _, by decide, by decide, Nat.le_refl _, fun g h => by cases h⟩, rfl⟩)
  go_enter Try.func47, Try.ntmps47
  go_wp2_with fail
  go_ret
  exact ⟨rfl, HFin.out, (Below.refl _ _).alloc (Nat.le_refl _) _⟩

theorem lenIF_calls (B p : Nat) (DK DV : Option Addr) (ks : List Int) (vs : List Fl) (w : World) (h : TbIF w B p DK DV ks vs) :
    Calls Try.prog 51 #[.pointer (some ⟨p, 0, none⟩)] w fun e w' => e = .returned (.int .i64 (ks.length : Int)) ∧ w' = w := by
  obtain ⟨cK, cV, h, heq⟩ := h
  have c0 := h.b.cell 0
  simp only [List.getElem?_cons_zero] at c0
  clear heq h
  generalize ks.length = n at *
  go_enter Try.func51, Try.ntmps51
  go_wp2_with fail
  go_ret
  exact ⟨rfl, rfl⟩

def KeysEndIF (w : World) (ks : List Int) (e : Ending) (w' : World) : Prop := ∃ D' c', e = .returned (.slice D' ks.length c') ∧ OwnB w' w.heap.size 3 1 D' ks.length c' (ks.map (Value.int .i64)) ∧ Below w.heap.size w w'
theorem keysIF_calls (B p : Nat) (DK DV : Option Addr) (ks : List Int) (vs : List Fl) (w : World) (h : TbIF w B p DK DV ks vs) (hn : ks.length ≤ 1000000) :
    Calls Try.prog 56 #[.pointer (some ⟨p, 0, none⟩)] w (KeysEndIF w ks) := by
  obtain ⟨cK, cV, h, heq⟩ := h
  have c0 := h.b.cell 0
  simp only [List.getElem?_cons_zero] at c0
  have HC := Lib.hid (cloneI_calls DK ks.length cK ks w h.k.sl rfl hn)
  have hv : Hid (∀ e w', KeysEndIF w ks e w' → KeysEndIF w ks e w') := (show ∀ _ _, _ → _ from fun _ _ h => h)
  clear heq h
  unfold KeysEndIF at hv ⊢
  generalize ks.length = n at *
  go_enter Try.func56, Try.ntmps56
  go_wp2_with fail
  refine HC.out.mono ?_
  rintro e w1 ⟨D', c', rfl, o1, b1, _⟩
  have HO := Lib.hid o1
  clear o1 HC
  go_wp2_with fail
  go_ret
  exact ⟨D', c', rfl, HO.out, b1⟩

set_option maxRecDepth 100000 in
set_option maxHeartbeats 1600000 in
theorem delIF_no (B p : Nat) (DK DV : Option Addr) (ks : List Int) (vs : List Fl) (k : Int) (i : Nat) (w : World) (h : TbIF w B p DK DV ks vs) (hr : Tab.Rising ltI ks) (hat : Tab.At ltI ks k i) (hn : ks.length ≤ 1000000) (hf : ks[i]? ≠ some k) :
    Calls Try.prog 55 #[.pointer (some ⟨p, 0, none⟩), (Value.int .i64) k] w fun e w' => e = .returned (.bool false) ∧ ∃ q, w' = w.drewN q := by
  obtain ⟨cK, cV, h, heq⟩ := h
  have c0 := h.b.cell 0
  simp only [List.getElem?_cons_zero] at c0
  have HS := Lib.hid (searchI_calls B DK ks.length cK ks k i w h.k hr hat hn)
  rw [decide_eq_false hf] at HS
  clear heq h hr hat hf
  generalize ks.length = n at *
  go_enter Try.func55, Try.ntmps55
  go_wp2_with fail
  refine HS.out.mono ?_
  rintro e w1 ⟨rfl, q, rfl⟩
  go_wp2_with fail
  go_ret
  exact ⟨rfl, _, rfl⟩
theorem del_lengthIF {α : Type} (l : List α) (i : Nat) (h : i < l.length) : (l.take i ++ l.drop (i + 1)).length = l.length - 1 := by simp; omega
set_option maxRecDepth 100000 in
set_option maxHeartbeats 1600000 in
theorem delIF_yes (B p : Nat) (DK DV : Option Addr) (ks : List Int) (vs : List Fl) (k : Int) (i : Nat) (w : World) (h : TbIF w B p DK DV ks vs) (hr : Tab.Rising ltI ks) (hat : Tab.At ltI ks k i) (hn : ks.length ≤ 1000000) (hf : ks[i]? = some k) (hBw : B ≤ w.heap.size) :
    Calls Try.prog 55 #[.pointer (some ⟨p, 0, none⟩), (Value.int .i64) k] w (TEndsIF w B p DK DV (.bool true) (ks.take i ++ ks.drop (i + 1)) (vs.take i ++ vs.drop (i + 1))) := by
  obtain ⟨cK, cV, h, heq⟩ := h
  have c0 := h.b.cell 0
  have c1 := h.b.cell 1
  simp only [List.getElem?_cons_zero, List.getElem?_cons_succ] at c0 c1
  have HS := Lib.hid (searchI_calls B DK ks.length cK ks k i w h.k hr hat hn)
  rw [decide_eq_true hf] at HS
  have hil : i < ks.length := (List.getElem?_eq_some_iff.1 hf).1
  have hiV : i < vs.length := by omega
  have HH := Lib.hid h
  have HLK := Lib.hid (del_lengthIF ks i hil)
  have HLV := Lib.hid (del_lengthIF vs i hiV)
  have HEQ := Lib.hid heq
  clear hf hr hat h heq
  go_enter Try.func55, Try.ntmps55
  go_wp2_with fail
  refine HS.out.mono ?_
  rintro e w1 ⟨rfl, q, hq⟩
  have h1 : T2 w1 B 124 3 91 p DK ks.length cK (ks.map (Value.int .i64)) DV vs.length cV (flatF vs) := by rw [hq]; exact HH.out.drewN q
  have b1 : Below B w w1 := by rw [hq]; exact below_drewN (Below.refl _ _) q
  have z1 : w1.heap.size = w.heap.size := by rw [hq]; rfl
  have k1 : Kp w w1 p DK DV := by rw [hq]; exact Kp.refl _ _ _ _
  have d0 := h1.b.cell 0
  have d1 := h1.b.cell 1
  simp only [List.getElem?_cons_zero, List.getElem?_cons_succ] at d0 d1
  have HI := Lib.hid (deleteI_calls B DK ks.length cK ks i w1 w1 h1.k hil h1.mxk (Below.refl _ _) (by omega))
  have HA := Lib.hid h1
  have HK1 := Lib.hid k1
  have HZ1 := Lib.hid z1
  clear hq h1 HS c0 c1 k1 z1
  go_wp2_with fail
  refine HI.out.mono ?_
  rintro e w2 ⟨rfl, o2, kp2, b2, s2⟩
  obtain ⟨t3, kp3, nw3⟩ := HA.out.setK (by decide) (by decide) kp2 o2 HA.out.mxk
  have hb2 := kp2.blk HA.out.b (own_ne_blkN HA.out.k HA.out.b (by decide))
  have e0 := hb2.cell 0
  have e1 := hb2.cell 1
  have f0 := hb2.frozen 0
  simp only [List.getElem?_cons_zero, List.getElem?_cons_succ] at e0 e1
  have hs3 : (w2.setCell ⟨p, 0, none⟩ (.slice DK (ks.length - 1) cK)).heap.size = w2.heap.size := by simp [World.setCell]
  have b3 : Below B w1 (w2.setCell ⟨p, 0, none⟩ (.slice DK (ks.length - 1) cK)) := b2.setCell (p := ⟨p, 0, none⟩) HA.out.pB _
  have HT3 := Lib.hid t3
  have HK3 := Lib.hid kp3
  have HI2 := Lib.hid (deleteF_calls B DV vs.length cV i (flatF vs) w1 (w2.setCell ⟨p, 0, none⟩ (.slice DK (ks.length - 1) cK)) t3.v hiV (by have := HEQ.out; omega) t3.mxv (oneVIF vs) b3 (by rw [hs3]; have := HZ1.out; omega))
  unfold InsEndsF at HI2
  rw [flatF_del] at HI2
  have HS3 := Lib.hid hs3
  clear HI o2 kp2 b2 t3 kp3 nw3 hb2 b3 d0 d1 hs3
  go_wp2_with fail
  refine HI2.out.mono ?_
  rintro e w4 ⟨D4, c4, rfl, o4, kp4, b4, s4, m4⟩
  obtain ⟨t5, kp5, nw5⟩ := HT3.out.setV (by decide) (by decide) kp4 o4 m4
  have hb4 := kp4.blk HT3.out.b (own_ne_blkN HT3.out.v HT3.out.b (by decide))
  have g1 := hb4.cell 1
  have f1 := hb4.frozen 1
  simp only [List.getElem?_cons_zero, List.getElem?_cons_succ] at g1
  have hs3 := HS3.out
  have z1 := HZ1.out
  have HFin : Hid (TEndsIF w B p DK DV (.bool true) (ks.take i ++ ks.drop (i + 1)) (vs.take i ++ vs.drop (i + 1)) (.returned (.bool true)) (w4.setCell ⟨p, 1, none⟩ (.slice D4 (vs.length - 1) c4))) := (show TEndsIF _ _ _ _ _ _ _ _ _ _ from by
    refine ⟨rfl, DK, D4, ⟨cK, c4, by rw [HLK.out, HLV.out]; exact t5, by rw [HLK.out, HLV.out, HEQ.out]⟩, ?_, Nw.refl _ _, ?_, b1.trans (b4.setCell (p := ⟨p, 1, none⟩) HT3.out.pB _)⟩
    · exact HK1.out.trans (w' := w1) (HK3.out.trans kp5 (by rw [hs3]; exact s2) (Nw.refl _ _) (Nw.refl _ _)) (by omega) (Nw.refl _ _) (Nw.refl _ _)
    · rcases nw5 with h1 | ⟨g, h1, h2⟩
      · exact .inl h1
      · exact .inr ⟨g, h1, by rw [hs3] at h2; omega⟩)
  clear HI2 o4 kp4 b4 s4 t5 kp5 nw5 hb4 HK3
  go_wp2_with fail
  go_ret
  exact HFin.out
end Go.Proofs.Ytbmgeomndfodpaa
