/-
  The contracts of yard's Find and Taken.
-/
import Derived.Test.YtbmgeomndfodpaaYardRename
namespace Go.Proofs.Ytbmgeomndfodpaa
open Go.RowKit Go.Mem Go.Proofs

/-- what is told of a file of the model -/
def toldM (x : MF) : Value := .agg #[.int .i64 x.ino, .string x.name, .int .i64 (x.data.length : Int)]
def zeroF : Value := .agg #[.int .i64 0, .string ⟨#[]⟩, .int .i64 0]
def findV (s : ByteArray) (m : List MF) : Value := match findM s m with
  | none => zeroF
  | some i => toldM (m.getD i ⟨0, ⟨#[]⟩, []⟩)
theorem Yd.told_calls {w : World} {B y : Nat} {m : List MF} {tk : List (Int × Int)} {pF pT : Nat} {DK DV DK2 DV2 : Option Addr} {vs : List Fl} (h : Yd w B y m tk pF pT DK DV DK2 DV2 vs) (hm : m.length ≤ 1000000) {i : Nat} {x : MF} (hx : m[i]? = some x) :
    Calls Try.prog 57 #[.pointer (some ⟨y, 0, none⟩), .int .i64 x.ino] w fun e w' => e = .returned (toldM x) ∧ Below w.heap.size w w' := by
  have hil : i < vs.length := by rw [h.len]; exact (List.getElem?_eq_some_iff.1 hx).1
  obtain ⟨f, hfv⟩ : ∃ f, vs[i]? = some f := ⟨vs[i], List.getElem?_eq_getElem hil⟩
  obtain ⟨o1, o2, _⟩ := h.own i f x hfv hx
  have hk : (m.map MF.ino)[i]? = some x.ino := by rw [List.getElem?_map, hx]; rfl
  have := Go.Proofs.Ytbmgeomndfodpaa.told_calls B y pF pT DK DV (m.map MF.ino) vs x.ino f i w h.b h.f h.rf (by rw [List.length_map]; exact hm) hk hfv
  unfold toldV at this
  rw [o1, o2] at this
  exact this
set_option maxRecDepth 100000 in
set_option maxHeartbeats 1600000 in
theorem find_calls {w : World} {B y : Nat} {m : List MF} {tk : List (Int × Int)} {S : Nat → Prop} (h : YS w B y m tk S) (hg : Gd m) (s : ByteArray) :
    Calls Try.prog 20 #[.pointer (some ⟨y, 0, none⟩), .string s] w fun e w' => e = .returned (.tuple #[findV s m, .bool (findM s m).isSome]) ∧ Below w.heap.size w w' := by
  obtain ⟨pF, pT, DK, DV, DK2, DV2, vs, h, rfl⟩ := h
  have hlen := hg.len
  have hm : m.length ≤ 1000000 := by omega
  have hal := (Below.refl w.heap.size w).alloc (Nat.le_refl _) (.cells #[.int .i64 0, .string ⟨#[]⟩, .int .i64 0] 31)
  have hbx := Blk.new w 31 #[.int .i64 0, .string ⟨#[]⟩, .int .i64 0]
  have HN := Lib.hid ((h.below hal).named_calls hm s)
  unfold findV
  cases hf : findM s m with
  | none =>
    rw [(findM_none hf).1] at HN
    clear h hg
    simp only [Option.isSome_none]
    go_enter Try.func20, Try.ntmps20
    go_upto_region 1 with fail
    have HB := Lib.hid hal
    have hsz : w.heap.size < (w.alloc (.cells #[.int .i64 0, .string ⟨#[]⟩, .int .i64 0] 31)).heap.size := by simp
    generalize w.alloc (.cells #[.int .i64 0, .string ⟨#[]⟩, .int .i64 0] 31) = w1 at *
    clear hal
    go_wp2_with fail
    refine HN.out.mono ?_
    rintro e w2 ⟨rfl, _, hb2⟩
    have hbx2 := hbx.below hb2 hsz
    have HB2 : Hid (Below w.heap.size w w2) := (show Below _ _ _ from HB.out.trans (hb2.mono (by omega)))
    have b0 := hbx2.cell 0
    have b1 := hbx2.cell 1
    have b2 := hbx2.cell 2
    have q0 := hbx2.frozen 0
    have q1 := hbx2.frozen 1
    have q2 := hbx2.frozen 2
    simp only [List.getElem?_cons_zero, List.getElem?_cons_succ] at b0 b1 b2
    have HBX := Lib.hid (((hbx2.set_ 0 (.int .i64 0)).set_ 1 (.string ⟨#[]⟩)).set_ 2 (.int .i64 0))
    have HFin : Hid (Below w.heap.size w (((w2.setCell ⟨w.heap.size, 0, none⟩ (.int .i64 0)).setCell ⟨w.heap.size, 1, none⟩ (.string ⟨#[]⟩)).setCell ⟨w.heap.size, 2, none⟩ (.int .i64 0))) := (show Below _ _ _ from ((HB2.out.setCell (Nat.le_refl _) _).setCell (Nat.le_refl _) _).setCell (Nat.le_refl _) _)
    clear HN hb2 hbx HB hbx2 HB2
    go_wp2_with fail
    generalize ((w2.setCell ⟨w.heap.size, 0, none⟩ (.int .i64 0)).setCell ⟨w.heap.size, 1, none⟩ (.string ⟨#[]⟩)).setCell ⟨w.heap.size, 2, none⟩ (.int .i64 0) = w3 at *
    clear b0 b1 b2 q0 q1 q2
    have b0 := HBX.out.cell 0
    have b1 := HBX.out.cell 1
    have b2 := HBX.out.cell 2
    simp only [List.set_cons_zero, List.set_cons_succ, List.getElem?_cons_zero, List.getElem?_cons_succ] at b0 b1 b2
    (try simp only [Exit.inBlock, Exit.then])
    refine bodyPost_ret (v := .tuple #[zeroF, .bool false]) ?_ rfl ⟨rfl, HFin.out⟩
    rw [results_cell_tmp rfl]
    unfold zeroF
    go_simp
  | some i =>
    obtain ⟨x, hx, hxn, hno⟩ := findM_some hf
    rw [hno] at HN
    have HT := Lib.hid (fun W (hW : Yd W B y m tk pF pT DK DV DK2 DV2 vs) => hW.told_calls hm hx)
    have hz : ¬ x.ino = 0 := by have := (hg.ino x (List.mem_of_getElem? hx)).1; omega
    simp only [getD_some hx, Option.isSome_some]
    unfold toldM at HT ⊢
    clear h hg hf hx hxn hno
    generalize x.ino = no at *
    generalize x.name = nm at *
    generalize x.data.length = ln at *
    go_enter Try.func20, Try.ntmps20
    go_upto_region 1 with fail
    have HB := Lib.hid hal
    have hsz : w.heap.size < (w.alloc (.cells #[.int .i64 0, .string ⟨#[]⟩, .int .i64 0] 31)).heap.size := by simp
    generalize w.alloc (.cells #[.int .i64 0, .string ⟨#[]⟩, .int .i64 0] 31) = w1 at *
    clear hal
    go_wp2_with fail
    refine HN.out.mono ?_
    rintro e w2 ⟨rfl, h2, hb2⟩
    have HT2 := Lib.hid (HT.out w2 h2)
    have hbx2 := hbx.below hb2 hsz
    have hs2 := hb2.size
    have hsz2 : w.heap.size < w2.heap.size := by omega
    have HB2 : Hid (Below w.heap.size w w2) := (show Below _ _ _ from HB.out.trans (hb2.mono (by omega)))
    clear HN hb2 hbx HB HT h2 hs2 hsz
    go_wp2_with fail
    refine HT2.out.mono ?_
    rintro e w3 ⟨rfl, hb3⟩
    have hbx3 := hbx2.below hb3 hsz2
    have HB3 : Hid (Below w.heap.size w w3) := (show Below _ _ _ from HB2.out.trans (hb3.mono (by omega)))
    have b0 := hbx3.cell 0
    have b1 := hbx3.cell 1
    have b2 := hbx3.cell 2
    have q0 := hbx3.frozen 0
    have q1 := hbx3.frozen 1
    have q2 := hbx3.frozen 2
    simp only [List.getElem?_cons_zero, List.getElem?_cons_succ] at b0 b1 b2
    have HBX := Lib.hid (((hbx3.set_ 0 (.int .i64 no)).set_ 1 (.string nm)).set_ 2 (.int .i64 (ln : Int)))
    have HFin : Hid (Below w.heap.size w (((w3.setCell ⟨w.heap.size, 0, none⟩ (.int .i64 no)).setCell ⟨w.heap.size, 1, none⟩ (.string nm)).setCell ⟨w.heap.size, 2, none⟩ (.int .i64 (ln : Int)))) := (show Below _ _ _ from ((HB3.out.setCell (Nat.le_refl _) _).setCell (Nat.le_refl _) _).setCell (Nat.le_refl _) _)
    clear HT2 hb3 hbx2 HB2 hbx3 HB3
    go_wp2_with fail
    generalize ((w3.setCell ⟨w.heap.size, 0, none⟩ (.int .i64 no)).setCell ⟨w.heap.size, 1, none⟩ (.string nm)).setCell ⟨w.heap.size, 2, none⟩ (.int .i64 (ln : Int)) = w4 at *
    clear b0 b1 b2 q0 q1 q2
    have b0 := HBX.out.cell 0
    have b1 := HBX.out.cell 1
    have b2 := HBX.out.cell 2
    simp only [List.set_cons_zero, List.set_cons_succ, List.getElem?_cons_zero, List.getElem?_cons_succ] at b0 b1 b2
    (try simp only [Exit.inBlock, Exit.then])
    refine bodyPost_ret (v := .tuple #[.agg #[.int .i64 no, .string nm, .int .i64 (ln : Int)], .bool true]) ?_ rfl ⟨rfl, HFin.out⟩
    rw [results_cell_tmp rfl]
    go_simp
/-- how much was read of a number -/
def takenM (k : Int) : List (Int × Int) → Int
  | [] => 0
  | x :: l => if x.1 = k then x.2 else takenM k l
theorem takenM_at {k : Int} {tk : List (Int × Int)} {i : Nat} (hr : Tab.Rising ltI (tk.map Prod.fst)) (hat : Tab.At ltI (tk.map Prod.fst) k i) : takenM k tk = if (tk.map Prod.fst)[i]? = some k then (tk.map Prod.snd).getD i 0 else 0 := by
  induction tk generalizing i with
  | nil => simp [takenM]
  | cons x l ih =>
    rw [List.map_cons] at hr
    obtain ⟨h1, h2⟩ := List.pairwise_cons.1 hr
    unfold takenM
    cases i with
    | zero =>
      by_cases hx : x.1 = k
      · rw [if_pos hx, if_pos (by simp [hx])]; simp
      · rw [if_neg hx, if_neg (by simpa using hx)]
        have hk : ¬ x.1 < k := by have := hat.2.2 0 x.1 (Nat.le_refl _) (by simp); simpa [ltI] using this
        have hno : ∀ l' : List (Int × Int), (∀ z ∈ l', x.1 < z.1) → takenM k l' = 0 := by
          intro l'
          induction l' with
          | nil => intro _; rfl
          | cons z l' ihl =>
            intro hz
            unfold takenM
            rw [if_neg (by have := hz z (by simp); omega)]
            exact ihl (fun q hq => hz q (by simp [hq]))
        exact hno l (fun z hz => by have := h1 z.1 (List.mem_map_of_mem hz); simpa [ltI] using this)
    | succ i =>
      have hx : ¬ x.1 = k := by have := hat.2.1 0 x.1 (by omega) (by simp); simp [ltI] at this; omega
      rw [if_neg hx]
      have hat2 : Tab.At ltI (l.map Prod.fst) k i := ⟨by have := hat.1; simp at this ⊢; omega, fun t z ht hz => hat.2.1 (t + 1) z (by omega) (by simpa using hz), fun t z ht hz => hat.2.2 (t + 1) z (by omega) (by simpa using hz)⟩
      rw [ih h2 hat2, List.map_cons, List.map_cons, List.getElem?_cons_succ]
      rfl
set_option maxRecDepth 100000 in
theorem taken_calls {w : World} {B y : Nat} {m : List MF} {tk : List (Int × Int)} {S : Nat → Prop} (h : YS w B y m tk S) (hl : tk.length ≤ 1000000) (k : Int) :
    Calls Try.prog 22 #[.pointer (some ⟨y, 0, none⟩), .int .i64 k] w fun e w' => e = .returned (.int .i64 (takenM k tk)) ∧ ∃ q, w' = w.drewN q := by
  obtain ⟨pF, pT, DK, DV, DK2, DV2, vs, h, rfl⟩ := h
  obtain ⟨i, hat⟩ := Tab.At.ex ordI (tk.map Prod.fst) h.rt k
  have HG := Lib.hid (getII_calls B pT DK2 DV2 (tk.map Prod.fst) (tk.map Prod.snd) k i w h.t h.rt hat (by rw [List.length_map]; exact hl))
  have hv : (if (tk.map Prod.fst)[i]? = some k then (Value.int .i64) ((tk.map Prod.snd).getD i 0) else .int .i64 0) = .int .i64 (takenM k tk) := by
    rw [takenM_at h.rt hat]; split <;> rfl
  rw [hv] at HG
  have c1 := h.b.cell 1
  simp only [List.getElem?_cons_zero, List.getElem?_cons_succ] at c1
  clear h hat hv
  generalize takenM k tk = n at *
  generalize decide ((tk.map Prod.fst)[i]? = some k) = b at HG
  go_enter Try.func22, Try.ntmps22
  go_wp2_with fail
  refine HG.out.mono ?_
  rintro e w1 ⟨rfl, q, rfl⟩
  go_wp2_with fail
  go_ret
  exact ⟨rfl, _, rfl⟩
end Go.Proofs.Ytbmgeomndfodpaa
