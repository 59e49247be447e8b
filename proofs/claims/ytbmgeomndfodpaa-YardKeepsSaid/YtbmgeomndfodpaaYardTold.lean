/-
  The contracts of yard's told and New; the yard's state.
-/
import Derived.Test.YtbmgeomndfodpaaYardNamed
import Derived.Test.YtbmgeomndfodpaaTabII2
namespace Go.Proofs.Ytbmgeomndfodpaa
open Go.RowKit Go.Mem Go.Proofs

theorem results_cell1 {fn : Func} {p : Tmp} {ty : TypeId} (h : fn.results = #[.cell p ty]) (tmps : Array Value) (P : Program) (w : World) :
    (results fn tmps).run P w = ((asAddr (tmps.getD p undef)).run P w).andThen fun a w₁ => ((loadVar ty a).run P w₁) := by
  simp only [results, h]
  simp [Result.andThen]
/-- what is told of a file -/
def toldV (ino : Int) (f : Fl) : Value := .agg #[.int .i64 ino, .string f.name, .int .i64 (f.n : Int)]
set_option maxRecDepth 100000 in
set_option maxHeartbeats 1600000 in
theorem told_calls (B y pF pT : Nat) (DK DV : Option Addr) (ks : List Int) (vs : List Fl) (k : Int) (f : Fl) (i : Nat) (w : World) (hy : Blk w y 95 [.pointer (some ⟨pF, 0, none⟩), .pointer (some ⟨pT, 0, none⟩)]) (h : TbIF w B pF DK DV ks vs) (hr : Tab.Rising ltI ks) (hn : ks.length ≤ 1000000) (hk : ks[i]? = some k) (hf : vs[i]? = some f) :
    Calls Try.prog 57 #[.pointer (some ⟨y, 0, none⟩), .int .i64 k] w fun e w' => e = .returned (toldV k f) ∧ Below w.heap.size w w' := by
  have hal := (Below.refl w.heap.size w).alloc (Nat.le_refl _) (.cells #[.int .i64 0, .string ⟨#[]⟩, .int .i64 0] 31)
  have hbx := Blk.new w 31 #[.int .i64 0, .string ⟨#[]⟩, .int .i64 0]
  have hy1 := hy.below hal hy.lt
  have HG := Lib.hid (getIF_calls B pF DK DV ks vs k i _ (h.below hal) hr (Tab.At.of_get ordI hr hk) hn)
  unfold GetEndsIF at HG
  have hd : vs.getD i zFl = f := by rw [List.getD_eq_getElem?_getD, hf]; rfl
  rw [if_pos hk, decide_eq_true hk, hd] at HG
  obtain ⟨v1, v2, v3, v4⟩ := f
  unfold Fl.val at HG
  clear h hr hk hf hd hy
  go_enter Try.func57, Try.ntmps57
  go_upto_region 1 with fail
  have HB := Lib.hid hal
  clear hal
  have hsz : (w.alloc (.cells #[.int .i64 0, .string ⟨#[]⟩, .int .i64 0] 31)).heap.size = w.heap.size + 1 := by simp
  generalize w.alloc (.cells #[.int .i64 0, .string ⟨#[]⟩, .int .i64 0] 31) = w1 at *
  have c0 := hy1.cell 0
  simp only [List.getElem?_cons_zero] at c0
  go_wp2_with fail
  refine HG.out.mono ?_
  rintro e w2 ⟨rfl, hb2⟩
  have hbx2 := hbx.below hb2 (by rw [hsz]; omega)
  have HB2 := Lib.hid (show Below w.heap.size w w2 from HB.out.trans (hb2.mono (by rw [hsz]; omega)))
  clear HG hb2 c0 hy1 HB
  go_upto_region 2 with fail
  have hbn := Blk.new w2 91 #[.string v1, .slice v2 v3 v4]
  have hbx3 := hbx2.alloc (.cells #[.string v1, .slice v2 v3 v4] 91)
  have hB3 : Below w.heap.size w (w2.alloc (.cells #[.string v1, .slice v2 v3 v4] 91)) := HB2.out.alloc HB2.out.size _
  generalize w2.alloc (.cells #[.string v1, .slice v2 v3 v4] 91) = w3 at *
  have b0 := hbx3.cell 0
  have b1 := hbx3.cell 1
  have b2 := hbx3.cell 2
  have q0 := hbx3.frozen 0
  have q1 := hbx3.frozen 1
  have q2 := hbx3.frozen 2
  have n0 := hbn.cell 0
  have n1 := hbn.cell 1
  simp only [List.getElem?_cons_zero, List.getElem?_cons_succ] at b0 b1 b2 n0 n1
  have HBX := Lib.hid (((hbx3.set_ 0 (.int .i64 k)).set_ 1 (.string v1)).set_ 2 (.int .i64 (v3 : Int)))
  have HFin : Hid (Below w.heap.size w (((w3.setCell ⟨w.heap.size, 0, none⟩ (.int .i64 k)).setCell ⟨w.heap.size, 1, none⟩ (.string v1)).setCell ⟨w.heap.size, 2, none⟩ (.int .i64 (v3 : Int)))) := (show Below _ _ _ from ((hB3.setCell (Nat.le_refl _) _).setCell (Nat.le_refl _) _).setCell (Nat.le_refl _) _)
  clear hB3
  go_wp2_with fail
  generalize ((w3.setCell ⟨w.heap.size, 0, none⟩ (.int .i64 k)).setCell ⟨w.heap.size, 1, none⟩ (.string v1)).setCell ⟨w.heap.size, 2, none⟩ (.int .i64 (v3 : Int)) = w4 at *
  clear b0 b1 b2 q0 q1 q2 n0 n1 hbx hbx2 hbx3 hbn
  have b0 := HBX.out.cell 0
  have b1 := HBX.out.cell 1
  have b2 := HBX.out.cell 2
  simp only [List.set_cons_zero, List.set_cons_succ, List.getElem?_cons_zero, List.getElem?_cons_succ] at b0 b1 b2
  (try simp only [Exit.inBlock, Exit.then])
  refine bodyPost_ret (v := toldV k ⟨v1, v2, v3, v4⟩) ?_ rfl ⟨rfl, HFin.out⟩
  rw [results_cell1 rfl]
  unfold toldV
  go_simp
end Go.Proofs.Ytbmgeomndfodpaa
