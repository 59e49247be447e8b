/-
  slices.Insert, Delete and Clone at numbers and at texts, on a slice of the call's own: out of the shelf's contracts.
-/
import Derived.Test.YtbmgeomndfodpaaApp2
import Derived.Shelf.Spec.SlicesInsert
import Derived.Shelf.Spec.SlicesInsertGrow
import Derived.Shelf.Slices.Cells
import Derived.Shelf.Slices.SearchI
import Derived.Shelf.Slices.Clone
import Derived.Shelf.Slices.Empties
import Derived.Shelf.Lay
import Derived.Ground.Names2Prog
namespace Go.Proofs.Ytbmgeomndfodpaa
open Go.RowKit Go.Mem Go.Proofs Go.Shelf
shelf_lay Lays2.n15 Nm2 15 at Try as cloneI
shelf_lay Lays2.n16 Nm2 16 at Try as cloneS
shelf_lay Lays2.n21 Nm2 21 at Try as insertI
shelf_lay Lays2.n22 Nm2 22 at Try as insertS
shelf_lay Lays2.n23 Nm2 23 at Try as deleteI
shelf_lay Lays2.n24 Nm2 24 at Try as deleteS
shelf_lay Lays2.n25 Nm2 25 at Try as searchI

theorem shape_blk {w : World} {g : Nat} {t : TypeId} {cs : List Value} (h : Blk w g t cs) : w.shape? g = some (t, cs.length) := by
  unfold Blk at h
  simp [World.shape?, h]

/-- what ends in a slice of the call's own -/
def InsEndsI (w0 w : World) (B : Nat) (D : Option Addr) (l : List Value) (e : Ending) (w' : World) : Prop := ∃ D' c, e = .returned (.slice D' l.length c) ∧ OwnB w' B 3 1 D' l.length c l ∧ Kept w w' D D' ∧ Below B w0 w' ∧ w.heap.size ≤ w'.heap.size ∧ c ≤ 9223372036854775807
theorem ins_lenI (pre : List Value) (i : Nat) (v : Value) (h : i ≤ pre.length) : (pre.take i ++ ([v] ++ pre.drop i)).length = pre.length + 1 := by
  simp; omega
theorem insertI_calls (B : Nat) (D : Option Addr) (n c i : Nat) (pre : List Value) (v : Value) (vb : Nat) (w0 w : World) (ho : OwnB w B 3 1 D n c pre) (hi : i ≤ n) (hn : n ≤ 1000000) (hc63 : c ≤ 9223372036854775807) (hv : Blk w vb 3 [v]) (hne : D ≠ some ⟨vb, 0, none⟩) (h1 : ∀ u ∈ pre, u.oneCell' = true) (h1v : v.oneCell' = true) (hbel : Below B w0 w) (hBs : B ≤ w.heap.size) :
    Calls Try.prog 86 #[.slice D n c, .int .i64 (i : Int), .slice (some ⟨vb, 0, none⟩) 1 1] w (InsEndsI w0 w B D (pre.take i ++ ([v] ++ pre.drop i))) := by
  have hpl : pre.length = n := by have := ho.len; omega
  have hlen := ins_lenI pre i v (by omega)
  have hvs : ∀ j u, [v][j]? = some u → w.cell? ⟨vb, 0 + j, none⟩ = some u := fun j u h => by rw [Nat.zero_add, hv.cell]; exact h
  have h1v' : ∀ u ∈ [v], u.oneCell' = true := fun u hu => by rw [List.mem_singleton.1 hu]; exact h1v
  have hnc := ho.le
  have e3 : insertI_ren.t 3 = 3 := rfl
  rcases ho.2.2 with ⟨rfl, h0, hc0⟩ | ⟨g, sp, rfl, hgB, hb, hcap⟩
  · -- nil
    subst hc0
    obtain rfl : n = 0 := h0
    obtain rfl : i = 0 := by omega
    obtain rfl : pre = [] := List.eq_nil_of_length_eq_zero hpl
    refine (Any2.slices_Insert_int_end_grow insertI none 0 0 vb 0 1 1 [] [v] w (by decide) (by decide) (by decide) (by decide) rfl rfl (fun _ => rfl) (fun a h => by cases h) hvs h1v').mono ?_
    rintro e w' ⟨rfl, rfl⟩
    rw [e3]
    have hge := grownCap_ge w (0 + 1) 0 3
    obtain ⟨G, hG⟩ : ∃ G, grownCap w (0 + 1) 0 3 = G := ⟨_, rfl⟩
    rw [hG] at hge ⊢
    have hmax : G ≤ 9223372036854775807 := by rw [← hG]; exact grownCap_le_maxLen _ _ _ _ (by decide)
    refine ⟨some ⟨w.heap.size, 0, none⟩, G, rfl, ⟨rfl, hge, .inr ⟨w.heap.size, (Builtin.zeroCells (Value.int .i64 0).cells (G - (0 + 1))).toList, rfl, hBs, ?_, ?_⟩⟩, ⟨fun k hk _ => by rw [Below.heap_alloc _ _ _ (by simpa using hk)]; rfl, .inr rfl⟩, (hbel.drew).alloc (by simpa using hBs) _, by simp, hmax⟩
    · have h := Blk.new w.drew 3 (([] ++ [v] : List Value).toArray ++ Builtin.zeroCells (Value.int .i64 0).cells (G - (0 + 1)))
      simpa using h
    · simp [Builtin.zeroCells, Value.cells]; omega
  · have hne' : vb ≠ g := fun e => hne (by rw [e])
    have hcl : (pre ++ sp).length = c := by rw [List.length_append, hpl]; omega
    have hsome : ∀ j, j < c → (w.cell? ⟨g, j, none⟩).isSome = true := fun j hj => by rw [hb.cell, List.getElem?_eq_getElem (by omega)]; rfl
    have hcs : ∀ j u, pre[j]? = some u → w.cell? ⟨g, 0 + j, none⟩ = some u := fun j u h => by
      have hj : j < pre.length := (List.getElem?_eq_some_iff.1 h).1
      rw [Nat.zero_add, hb.cell, List.getElem?_append_left hj]; exact h
    by_cases hin : i = n
    · subst hin
      have htk : pre.take i ++ ([v] ++ pre.drop i) = pre ++ [v] := by rw [List.take_of_length_le (by omega), List.drop_eq_nil_of_le (by omega)]; rfl
      rw [htk]
      by_cases hroom : i + 1 ≤ c
      · refine (Any2.slices_Insert_int_end_room insertI g 0 i c vb 0 1 1 [v] w (by decide) hroom hc63 rfl (fun j hj => hsome _ (by omega)) (fun j _ => hb.frozen _) hvs h1v').mono ?_
        rintro e w' ⟨rfl, rfl⟩
        obtain ⟨k1, k2, k3⟩ := heap_setCells g [v] i w (pre ++ sp) 3 hb (by simp; omega)
        have e1 : (pre ++ sp).take i = pre := by rw [List.take_append_of_le_length (by omega), List.take_of_length_le (by omega)]
        have e2 : (pre ++ sp).drop (i + [v].length) = sp.drop 1 := by rw [List.drop_append, List.drop_eq_nil_of_le (by simp; omega), List.nil_append]; congr 1; simp; omega
        rw [e1, e2, ← List.append_assoc] at k1
        rw [Nat.zero_add]
        refine ⟨some ⟨g, 0, none⟩, c, by rw [List.length_append, hpl]; rfl, ⟨by simp, by rw [List.length_append, hpl]; exact hroom, .inr ⟨g, sp.drop 1, rfl, hgB, k1, by simp; omega⟩⟩, ⟨fun k hk hd => k2.block k hk (fun e => hd (by injection e with e; rw [e])), .inl rfl⟩, below_grown hbel k2 hBs hgB, Nat.le_of_eq k3.symm, hc63⟩
      · refine (Any2.slices_Insert_int_end_grow insertI (some ⟨g, 0, none⟩) i c vb 0 1 1 pre [v] w (by decide) hnc (by omega) (by omega) hpl rfl (fun h => by cases h) (fun a h j u hu => by injection h with h; subst h; rw [Addr.add_lit]; exact hcs j u hu) hvs h1v').mono ?_
        rintro e w' ⟨rfl, rfl⟩
        rw [e3]
        have hge := grownCap_ge w (i + 1) c 3
        have hmax : grownCap w (i + 1) c 3 ≤ 9223372036854775807 := grownCap_le_maxLen _ _ _ _ (by unfold maxLen; omega)
        refine ⟨some ⟨w.heap.size, 0, none⟩, grownCap w (i + 1) c 3, by rw [List.length_append, hpl]; rfl, ⟨by simp, by rw [List.length_append, hpl]; exact hge, .inr ⟨w.heap.size, (Builtin.zeroCells (Value.int .i64 0).cells (grownCap w (i + 1) c 3 - (i + 1))).toList, rfl, hBs, ?_, ?_⟩⟩, ⟨fun k hk _ => by rw [Below.heap_alloc _ _ _ (by simpa using hk)]; rfl, .inr rfl⟩, (hbel.drew).alloc (by simpa using hBs) _, by simp, hmax⟩
        · have h := Blk.new w.drew 3 ((pre ++ [v]).toArray ++ Builtin.zeroCells (Value.int .i64 0).cells (grownCap w (i + 1) c 3 - (i + 1)))
          simpa using h
        · simp [Builtin.zeroCells, Value.cells]; omega
    · have hil : i < n := by omega
      by_cases hroom : n + 1 ≤ c
      · refine (Any2.slices_Insert_int_shift insertI g 0 n c i vb 0 1 1 pre [v] w hil (by decide) hroom hc63 hne' hpl rfl hcs (fun j hj => by rw [Nat.zero_add]; exact hsome _ (by omega)) (fun j _ => hb.frozen _) hvs h1 h1v' 3 3 1 (pre ++ sp).length (by simpa using shape_blk hv) (shape_blk hb) (by omega) (hv.frozen _) (hv.frozen _)).mono ?_
        rintro e w' ⟨rfl, rfl⟩
        have hbd : Blk w.drew g 3 (pre ++ sp) := hb
        obtain ⟨k1, k2, k3⟩ := heap_setCells g (pre.drop i) (0 + (i + 1)) w.drew (pre ++ sp) 3 hbd (by simp; omega)
        obtain ⟨m1, m2, m3⟩ := heap_setCells g [v] (0 + i) (w.drew.setCells g (0 + (i + 1)) (pre.drop i)) _ 3 k1 (by simp; omega)
        have hfin : List.take (0 + i) (List.take (0 + (i + 1)) (pre ++ sp) ++ (pre.drop i ++ List.drop (0 + (i + 1) + (pre.drop i).length) (pre ++ sp))) ++ ([v] ++ List.drop (0 + i + [v].length) (List.take (0 + (i + 1)) (pre ++ sp) ++ (pre.drop i ++ List.drop (0 + (i + 1) + (pre.drop i).length) (pre ++ sp)))) = (pre.take i ++ ([v] ++ pre.drop i)) ++ sp.drop 1 := by
          have a1 : List.take (0 + (i + 1)) (pre ++ sp) = pre.take (i + 1) := by rw [Nat.zero_add, List.take_append_of_le_length (by omega)]
          have a2 : List.drop (0 + (i + 1) + (pre.drop i).length) (pre ++ sp) = sp.drop 1 := by
            rw [List.length_drop, show 0 + (i + 1) + (pre.length - i) = pre.length + 1 by omega, List.drop_append, List.drop_eq_nil_of_le (by omega), List.nil_append]
            congr 1; omega
          rw [a1, a2, Nat.zero_add]
          have b1 : List.take i (pre.take (i + 1) ++ (pre.drop i ++ sp.drop 1)) = pre.take i := by
            rw [List.take_append_of_le_length (by simp; omega), List.take_take]; congr 1; omega
          have b2 : List.drop (i + [v].length) (pre.take (i + 1) ++ (pre.drop i ++ sp.drop 1)) = pre.drop i ++ sp.drop 1 := by
            rw [List.drop_append, List.drop_eq_nil_of_le (by simp; omega), List.nil_append, List.length_take]
            have : i + [v].length - min (i + 1) pre.length = 0 := by simp; omega
            rw [this, List.drop_zero]
          rw [b1, b2]; simp
        rw [hfin] at m1
        have kk : w.grownBy ((w.drew.setCells g (0 + (i + 1)) (pre.drop i)).setCells g (0 + i) [v]) (some g) := only_trans ⟨k2.os, k2.tape, k2.output, k2.size, k2.block⟩ m2
        refine ⟨some ⟨g, 0, none⟩, c, by rw [hlen, hpl], ⟨by rw [hlen]; omega, by rw [hlen, hpl]; exact hroom, .inr ⟨g, sp.drop 1, rfl, hgB, m1, by rw [hlen]; simp; omega⟩⟩, ⟨fun k hk hd => kk.block k hk (fun e => hd (by injection e with e; rw [e])), .inl rfl⟩, below_grown hbel kk hBs hgB, kk.size, hc63⟩
      · refine (Any2.slices_Insert_int_grow insertI g 0 n c i vb 0 1 1 pre [v] w hil (by decide) hnc (by omega) (by omega) hpl rfl hcs hvs h1 h1v').mono ?_
        rintro e w' ⟨rfl, rfl⟩
        rw [e3]
        have hge := grownCap_ge w (n + 1) c 3
        obtain ⟨G, hG⟩ : ∃ G, grownCap w (n + 1) c 3 = G := ⟨_, rfl⟩
        rw [hG] at hge ⊢
        have hmax : G ≤ 9223372036854775807 := by rw [← hG]; exact grownCap_le_maxLen _ _ _ _ (by unfold maxLen; omega)
        have hz1 : ∀ m, (Builtin.zeroCells (Value.int .i64 0).cells m).toList = List.replicate m (Value.int .i64 0) := fun m => by
          apply List.ext_getElem
          · simp [Builtin.zeroCells, Value.cells]
          · intro a b1 b2; simp [Builtin.zeroCells, Value.cells, Nat.mod_one]
        have hb0 : Blk (w.alloc (.cells ((pre.take i).toArray ++ Builtin.zeroCells (Value.int .i64 0).cells (n + 1 - i) ++ Builtin.zeroCells (Value.int .i64 0).cells (G - (n + 1))) 3)).drew w.heap.size 3 (pre.take i ++ List.replicate (n + 1 - i) (Value.int .i64 0) ++ List.replicate (G - (n + 1)) (Value.int .i64 0)) := by
          have h := Blk.new w 3 ((pre.take i).toArray ++ Builtin.zeroCells (Value.int .i64 0).cells (n + 1 - i) ++ Builtin.zeroCells (Value.int .i64 0).cells (G - (n + 1)))
          simp only [Array.toList_append, hz1] at h
          exact h
        obtain ⟨k1, k2, k3⟩ := heap_setCells w.heap.size [v] i _ _ 3 hb0 (by simp; omega)
        obtain ⟨m1, m2, m3⟩ := heap_setCells w.heap.size (pre.drop i) (i + 1) _ _ 3 k1.drew (by simp; omega)
        have hfin : ∃ sp', List.take (i + 1) (List.take i (pre.take i ++ List.replicate (n + 1 - i) (Value.int .i64 0) ++ List.replicate (G - (n + 1)) (Value.int .i64 0)) ++ ([v] ++ List.drop (i + [v].length) (pre.take i ++ List.replicate (n + 1 - i) (Value.int .i64 0) ++ List.replicate (G - (n + 1)) (Value.int .i64 0)))) ++ (pre.drop i ++ List.drop (i + 1 + (pre.drop i).length) (List.take i (pre.take i ++ List.replicate (n + 1 - i) (Value.int .i64 0) ++ List.replicate (G - (n + 1)) (Value.int .i64 0)) ++ ([v] ++ List.drop (i + [v].length) (pre.take i ++ List.replicate (n + 1 - i) (Value.int .i64 0) ++ List.replicate (G - (n + 1)) (Value.int .i64 0))))) = (pre.take i ++ ([v] ++ pre.drop i)) ++ sp' ∧ sp'.length = G - (n + 1) := by
          have a0 : List.take i (pre.take i ++ List.replicate (n + 1 - i) (Value.int .i64 0) ++ List.replicate (G - (n + 1)) (Value.int .i64 0)) = pre.take i := by
            rw [List.append_assoc, List.take_append_of_le_length (by simp; omega), List.take_take]; congr 1; omega
          rw [a0]
          generalize hR : List.drop (i + [v].length) (pre.take i ++ List.replicate (n + 1 - i) (Value.int .i64 0) ++ List.replicate (G - (n + 1)) (Value.int .i64 0)) = R
          have hRl : R.length = G - (i + 1) := by rw [← hR]; simp; omega
          have a1 : List.take (i + 1) (pre.take i ++ ([v] ++ R)) = pre.take i ++ [v] := by
            rw [← List.append_assoc, List.take_append_of_le_length (by simp; omega), List.take_of_length_le (by simp; omega)]
          refine ⟨List.drop (n - i) R, ?_, by rw [List.length_drop, hRl]; omega⟩
          rw [a1]
          have a2 : List.drop (i + 1 + (pre.drop i).length) (pre.take i ++ ([v] ++ R)) = List.drop (n - i) R := by
            rw [← List.append_assoc, List.drop_append, List.drop_eq_nil_of_le (by simp; omega), List.nil_append]
            congr 1
            simp; omega
          rw [a2]; simp
        obtain ⟨sp', hf1, hf2⟩ := hfin
        rw [hf1] at m1
        have kw : w.grownBy ((w.alloc (.cells ((pre.take i).toArray ++ Builtin.zeroCells (Value.int .i64 0).cells (n + 1 - i) ++ Builtin.zeroCells (Value.int .i64 0).cells (G - (n + 1))) 3))) none := ⟨rfl, rfl, rfl, by simp, fun k hk _ => Below.heap_alloc _ _ _ hk⟩
        have kb : ∀ k, k < w.heap.size → (((w.alloc (.cells ((pre.take i).toArray ++ Builtin.zeroCells (Value.int .i64 0).cells (n + 1 - i) ++ Builtin.zeroCells (Value.int .i64 0).cells (G - (n + 1))) 3)).drew.setCells w.heap.size i [v]).drew.setCells w.heap.size (i + 1) (pre.drop i)).heap[k]? = w.heap[k]? := fun k hk => by
          refine (m2.block k (by have := k2.size; simp at this ⊢; omega) (fun e => by injection e with e; omega)).trans ?_
          refine (k2.block k (by simp; omega) (fun e => by injection e with e; omega)).trans ?_
          exact Below.heap_alloc _ _ _ hk
        have ksz : w.heap.size ≤ (((w.alloc (.cells ((pre.take i).toArray ++ Builtin.zeroCells (Value.int .i64 0).cells (n + 1 - i) ++ Builtin.zeroCells (Value.int .i64 0).cells (G - (n + 1))) 3)).drew.setCells w.heap.size i [v]).drew.setCells w.heap.size (i + 1) (pre.drop i)).heap.size := Nat.le_trans (Nat.le_trans (by simp) k2.size) m2.size
        refine ⟨some ⟨w.heap.size, 0, none⟩, G, by rw [hlen, hpl], ⟨by rw [hlen]; omega, by rw [hlen, hpl]; exact hge, .inr ⟨w.heap.size, sp', rfl, hBs, m1, by rw [hlen, hf2]; omega⟩⟩, ⟨fun k hk _ => kb k hk, .inr rfl⟩, hbel.trans ⟨m2.os.trans k2.os, m2.tape.trans k2.tape, m2.output.trans k2.output, ksz, fun k hk => kb k (Nat.lt_of_lt_of_le hk hBs)⟩, ksz, hmax⟩

/-- what ends in a slice of the call's own -/
def InsEndsS (w0 w : World) (B : Nat) (D : Option Addr) (l : List Value) (e : Ending) (w' : World) : Prop := ∃ D' c, e = .returned (.slice D' l.length c) ∧ OwnB w' B 9 1 D' l.length c l ∧ Kept w w' D D' ∧ Below B w0 w' ∧ w.heap.size ≤ w'.heap.size ∧ c ≤ 9223372036854775807
theorem ins_lenS (pre : List Value) (i : Nat) (v : Value) (h : i ≤ pre.length) : (pre.take i ++ ([v] ++ pre.drop i)).length = pre.length + 1 := by
  simp; omega
theorem insertS_calls (B : Nat) (D : Option Addr) (n c i : Nat) (pre : List Value) (v : Value) (vb : Nat) (w0 w : World) (ho : OwnB w B 9 1 D n c pre) (hi : i ≤ n) (hn : n ≤ 1000000) (hc63 : c ≤ 9223372036854775807) (hv : Blk w vb 9 [v]) (hne : D ≠ some ⟨vb, 0, none⟩) (h1 : ∀ u ∈ pre, u.oneCell' = true) (h1v : v.oneCell' = true) (hbel : Below B w0 w) (hBs : B ≤ w.heap.size) :
    Calls Try.prog 111 #[.slice D n c, .int .i64 (i : Int), .slice (some ⟨vb, 0, none⟩) 1 1] w (InsEndsS w0 w B D (pre.take i ++ ([v] ++ pre.drop i))) := by
  have hpl : pre.length = n := by have := ho.len; omega
  have hlen := ins_lenS pre i v (by omega)
  have hvs : ∀ j u, [v][j]? = some u → w.cell? ⟨vb, 0 + j, none⟩ = some u := fun j u h => by rw [Nat.zero_add, hv.cell]; exact h
  have h1v' : ∀ u ∈ [v], u.oneCell' = true := fun u hu => by rw [List.mem_singleton.1 hu]; exact h1v
  have hnc := ho.le
  have e3 : insertS_ren.t 9 = 9 := rfl
  rcases ho.2.2 with ⟨rfl, h0, hc0⟩ | ⟨g, sp, rfl, hgB, hb, hcap⟩
  · -- nil
    subst hc0
    obtain rfl : n = 0 := h0
    obtain rfl : i = 0 := by omega
    obtain rfl : pre = [] := List.eq_nil_of_length_eq_zero hpl
    refine (Any2.slices_Insert_string_end_grow insertS none 0 0 vb 0 1 1 [] [v] w (by decide) (by decide) (by decide) (by decide) rfl rfl (fun _ => rfl) (fun a h => by cases h) hvs h1v').mono ?_
    rintro e w' ⟨rfl, rfl⟩
    rw [e3]
    have hge := grownCap_ge w (0 + 1) 0 9
    obtain ⟨G, hG⟩ : ∃ G, grownCap w (0 + 1) 0 9 = G := ⟨_, rfl⟩
    rw [hG] at hge ⊢
    have hmax : G ≤ 9223372036854775807 := by rw [← hG]; exact grownCap_le_maxLen _ _ _ _ (by decide)
    refine ⟨some ⟨w.heap.size, 0, none⟩, G, rfl, ⟨rfl, hge, .inr ⟨w.heap.size, (Builtin.zeroCells (Value.string ⟨#[]⟩).cells (G - (0 + 1))).toList, rfl, hBs, ?_, ?_⟩⟩, ⟨fun k hk _ => by rw [Below.heap_alloc _ _ _ (by simpa using hk)]; rfl, .inr rfl⟩, (hbel.drew).alloc (by simpa using hBs) _, by simp, hmax⟩
    · have h := Blk.new w.drew 9 (([] ++ [v] : List Value).toArray ++ Builtin.zeroCells (Value.string ⟨#[]⟩).cells (G - (0 + 1)))
      simpa using h
    · simp [Builtin.zeroCells, Value.cells]; omega
  · have hne' : vb ≠ g := fun e => hne (by rw [e])
    have hcl : (pre ++ sp).length = c := by rw [List.length_append, hpl]; omega
    have hsome : ∀ j, j < c → (w.cell? ⟨g, j, none⟩).isSome = true := fun j hj => by rw [hb.cell, List.getElem?_eq_getElem (by omega)]; rfl
    have hcs : ∀ j u, pre[j]? = some u → w.cell? ⟨g, 0 + j, none⟩ = some u := fun j u h => by
      have hj : j < pre.length := (List.getElem?_eq_some_iff.1 h).1
      rw [Nat.zero_add, hb.cell, List.getElem?_append_left hj]; exact h
    by_cases hin : i = n
    · subst hin
      have htk : pre.take i ++ ([v] ++ pre.drop i) = pre ++ [v] := by rw [List.take_of_length_le (by omega), List.drop_eq_nil_of_le (by omega)]; rfl
      rw [htk]
      by_cases hroom : i + 1 ≤ c
      · refine (Any2.slices_Insert_string_end_room insertS g 0 i c vb 0 1 1 [v] w (by decide) hroom hc63 rfl (fun j hj => hsome _ (by omega)) (fun j _ => hb.frozen _) hvs h1v').mono ?_
        rintro e w' ⟨rfl, rfl⟩
        obtain ⟨k1, k2, k3⟩ := heap_setCells g [v] i w (pre ++ sp) 9 hb (by simp; omega)
        have e1 : (pre ++ sp).take i = pre := by rw [List.take_append_of_le_length (by omega), List.take_of_length_le (by omega)]
        have e2 : (pre ++ sp).drop (i + [v].length) = sp.drop 1 := by rw [List.drop_append, List.drop_eq_nil_of_le (by simp; omega), List.nil_append]; congr 1; simp; omega
        rw [e1, e2, ← List.append_assoc] at k1
        rw [Nat.zero_add]
        refine ⟨some ⟨g, 0, none⟩, c, by rw [List.length_append, hpl]; rfl, ⟨by simp, by rw [List.length_append, hpl]; exact hroom, .inr ⟨g, sp.drop 1, rfl, hgB, k1, by simp; omega⟩⟩, ⟨fun k hk hd => k2.block k hk (fun e => hd (by injection e with e; rw [e])), .inl rfl⟩, below_grown hbel k2 hBs hgB, Nat.le_of_eq k3.symm, hc63⟩
      · refine (Any2.slices_Insert_string_end_grow insertS (some ⟨g, 0, none⟩) i c vb 0 1 1 pre [v] w (by decide) hnc (by omega) (by omega) hpl rfl (fun h => by cases h) (fun a h j u hu => by injection h with h; subst h; rw [Addr.add_lit]; exact hcs j u hu) hvs h1v').mono ?_
        rintro e w' ⟨rfl, rfl⟩
        rw [e3]
        have hge := grownCap_ge w (i + 1) c 9
        have hmax : grownCap w (i + 1) c 9 ≤ 9223372036854775807 := grownCap_le_maxLen _ _ _ _ (by unfold maxLen; omega)
        refine ⟨some ⟨w.heap.size, 0, none⟩, grownCap w (i + 1) c 9, by rw [List.length_append, hpl]; rfl, ⟨by simp, by rw [List.length_append, hpl]; exact hge, .inr ⟨w.heap.size, (Builtin.zeroCells (Value.string ⟨#[]⟩).cells (grownCap w (i + 1) c 9 - (i + 1))).toList, rfl, hBs, ?_, ?_⟩⟩, ⟨fun k hk _ => by rw [Below.heap_alloc _ _ _ (by simpa using hk)]; rfl, .inr rfl⟩, (hbel.drew).alloc (by simpa using hBs) _, by simp, hmax⟩
        · have h := Blk.new w.drew 9 ((pre ++ [v]).toArray ++ Builtin.zeroCells (Value.string ⟨#[]⟩).cells (grownCap w (i + 1) c 9 - (i + 1)))
          simpa using h
        · simp [Builtin.zeroCells, Value.cells]; omega
    · have hil : i < n := by omega
      by_cases hroom : n + 1 ≤ c
      · refine (Any2.slices_Insert_string_shift insertS g 0 n c i vb 0 1 1 pre [v] w hil (by decide) hroom hc63 hne' hpl rfl hcs (fun j hj => by rw [Nat.zero_add]; exact hsome _ (by omega)) (fun j _ => hb.frozen _) hvs h1 h1v' 9 9 1 (pre ++ sp).length (by simpa using shape_blk hv) (shape_blk hb) (by omega) (hv.frozen _) (hv.frozen _)).mono ?_
        rintro e w' ⟨rfl, rfl⟩
        have hbd : Blk w.drew g 9 (pre ++ sp) := hb
        obtain ⟨k1, k2, k3⟩ := heap_setCells g (pre.drop i) (0 + (i + 1)) w.drew (pre ++ sp) 9 hbd (by simp; omega)
        obtain ⟨m1, m2, m3⟩ := heap_setCells g [v] (0 + i) (w.drew.setCells g (0 + (i + 1)) (pre.drop i)) _ 9 k1 (by simp; omega)
        have hfin : List.take (0 + i) (List.take (0 + (i + 1)) (pre ++ sp) ++ (pre.drop i ++ List.drop (0 + (i + 1) + (pre.drop i).length) (pre ++ sp))) ++ ([v] ++ List.drop (0 + i + [v].length) (List.take (0 + (i + 1)) (pre ++ sp) ++ (pre.drop i ++ List.drop (0 + (i + 1) + (pre.drop i).length) (pre ++ sp)))) = (pre.take i ++ ([v] ++ pre.drop i)) ++ sp.drop 1 := by
          have a1 : List.take (0 + (i + 1)) (pre ++ sp) = pre.take (i + 1) := by rw [Nat.zero_add, List.take_append_of_le_length (by omega)]
          have a2 : List.drop (0 + (i + 1) + (pre.drop i).length) (pre ++ sp) = sp.drop 1 := by
            rw [List.length_drop, show 0 + (i + 1) + (pre.length - i) = pre.length + 1 by omega, List.drop_append, List.drop_eq_nil_of_le (by omega), List.nil_append]
            congr 1; omega
          rw [a1, a2, Nat.zero_add]
          have b1 : List.take i (pre.take (i + 1) ++ (pre.drop i ++ sp.drop 1)) = pre.take i := by
            rw [List.take_append_of_le_length (by simp; omega), List.take_take]; congr 1; omega
          have b2 : List.drop (i + [v].length) (pre.take (i + 1) ++ (pre.drop i ++ sp.drop 1)) = pre.drop i ++ sp.drop 1 := by
            rw [List.drop_append, List.drop_eq_nil_of_le (by simp; omega), List.nil_append, List.length_take]
            have : i + [v].length - min (i + 1) pre.length = 0 := by simp; omega
            rw [this, List.drop_zero]
          rw [b1, b2]; simp
        rw [hfin] at m1
        have kk : w.grownBy ((w.drew.setCells g (0 + (i + 1)) (pre.drop i)).setCells g (0 + i) [v]) (some g) := only_trans ⟨k2.os, k2.tape, k2.output, k2.size, k2.block⟩ m2
        refine ⟨some ⟨g, 0, none⟩, c, by rw [hlen, hpl], ⟨by rw [hlen]; omega, by rw [hlen, hpl]; exact hroom, .inr ⟨g, sp.drop 1, rfl, hgB, m1, by rw [hlen]; simp; omega⟩⟩, ⟨fun k hk hd => kk.block k hk (fun e => hd (by injection e with e; rw [e])), .inl rfl⟩, below_grown hbel kk hBs hgB, kk.size, hc63⟩
      · refine (Any2.slices_Insert_string_grow insertS g 0 n c i vb 0 1 1 pre [v] w hil (by decide) hnc (by omega) (by omega) hpl rfl hcs hvs h1 h1v').mono ?_
        rintro e w' ⟨rfl, rfl⟩
        rw [e3]
        have hge := grownCap_ge w (n + 1) c 9
        obtain ⟨G, hG⟩ : ∃ G, grownCap w (n + 1) c 9 = G := ⟨_, rfl⟩
        rw [hG] at hge ⊢
        have hmax : G ≤ 9223372036854775807 := by rw [← hG]; exact grownCap_le_maxLen _ _ _ _ (by unfold maxLen; omega)
        have hz1 : ∀ m, (Builtin.zeroCells (Value.string ⟨#[]⟩).cells m).toList = List.replicate m (Value.string ⟨#[]⟩) := fun m => by
          apply List.ext_getElem
          · simp [Builtin.zeroCells, Value.cells]
          · intro a b1 b2; simp [Builtin.zeroCells, Value.cells, Nat.mod_one]
        have hb0 : Blk (w.alloc (.cells ((pre.take i).toArray ++ Builtin.zeroCells (Value.string ⟨#[]⟩).cells (n + 1 - i) ++ Builtin.zeroCells (Value.string ⟨#[]⟩).cells (G - (n + 1))) 9)).drew w.heap.size 9 (pre.take i ++ List.replicate (n + 1 - i) (Value.string ⟨#[]⟩) ++ List.replicate (G - (n + 1)) (Value.string ⟨#[]⟩)) := by
          have h := Blk.new w 9 ((pre.take i).toArray ++ Builtin.zeroCells (Value.string ⟨#[]⟩).cells (n + 1 - i) ++ Builtin.zeroCells (Value.string ⟨#[]⟩).cells (G - (n + 1)))
          simp only [Array.toList_append, hz1] at h
          exact h
        obtain ⟨k1, k2, k3⟩ := heap_setCells w.heap.size [v] i _ _ 9 hb0 (by simp; omega)
        obtain ⟨m1, m2, m3⟩ := heap_setCells w.heap.size (pre.drop i) (i + 1) _ _ 9 k1.drew (by simp; omega)
        have hfin : ∃ sp', List.take (i + 1) (List.take i (pre.take i ++ List.replicate (n + 1 - i) (Value.string ⟨#[]⟩) ++ List.replicate (G - (n + 1)) (Value.string ⟨#[]⟩)) ++ ([v] ++ List.drop (i + [v].length) (pre.take i ++ List.replicate (n + 1 - i) (Value.string ⟨#[]⟩) ++ List.replicate (G - (n + 1)) (Value.string ⟨#[]⟩)))) ++ (pre.drop i ++ List.drop (i + 1 + (pre.drop i).length) (List.take i (pre.take i ++ List.replicate (n + 1 - i) (Value.string ⟨#[]⟩) ++ List.replicate (G - (n + 1)) (Value.string ⟨#[]⟩)) ++ ([v] ++ List.drop (i + [v].length) (pre.take i ++ List.replicate (n + 1 - i) (Value.string ⟨#[]⟩) ++ List.replicate (G - (n + 1)) (Value.string ⟨#[]⟩))))) = (pre.take i ++ ([v] ++ pre.drop i)) ++ sp' ∧ sp'.length = G - (n + 1) := by
          have a0 : List.take i (pre.take i ++ List.replicate (n + 1 - i) (Value.string ⟨#[]⟩) ++ List.replicate (G - (n + 1)) (Value.string ⟨#[]⟩)) = pre.take i := by
            rw [List.append_assoc, List.take_append_of_le_length (by simp; omega), List.take_take]; congr 1; omega
          rw [a0]
          generalize hR : List.drop (i + [v].length) (pre.take i ++ List.replicate (n + 1 - i) (Value.string ⟨#[]⟩) ++ List.replicate (G - (n + 1)) (Value.string ⟨#[]⟩)) = R
          have hRl : R.length = G - (i + 1) := by rw [← hR]; simp; omega
          have a1 : List.take (i + 1) (pre.take i ++ ([v] ++ R)) = pre.take i ++ [v] := by
            rw [← List.append_assoc, List.take_append_of_le_length (by simp; omega), List.take_of_length_le (by simp; omega)]
          refine ⟨List.drop (n - i) R, ?_, by rw [List.length_drop, hRl]; omega⟩
          rw [a1]
          have a2 : List.drop (i + 1 + (pre.drop i).length) (pre.take i ++ ([v] ++ R)) = List.drop (n - i) R := by
            rw [← List.append_assoc, List.drop_append, List.drop_eq_nil_of_le (by simp; omega), List.nil_append]
            congr 1
            simp; omega
          rw [a2]; simp
        obtain ⟨sp', hf1, hf2⟩ := hfin
        rw [hf1] at m1
        have kw : w.grownBy ((w.alloc (.cells ((pre.take i).toArray ++ Builtin.zeroCells (Value.string ⟨#[]⟩).cells (n + 1 - i) ++ Builtin.zeroCells (Value.string ⟨#[]⟩).cells (G - (n + 1))) 9))) none := ⟨rfl, rfl, rfl, by simp, fun k hk _ => Below.heap_alloc _ _ _ hk⟩
        have kb : ∀ k, k < w.heap.size → (((w.alloc (.cells ((pre.take i).toArray ++ Builtin.zeroCells (Value.string ⟨#[]⟩).cells (n + 1 - i) ++ Builtin.zeroCells (Value.string ⟨#[]⟩).cells (G - (n + 1))) 9)).drew.setCells w.heap.size i [v]).drew.setCells w.heap.size (i + 1) (pre.drop i)).heap[k]? = w.heap[k]? := fun k hk => by
          refine (m2.block k (by have := k2.size; simp at this ⊢; omega) (fun e => by injection e with e; omega)).trans ?_
          refine (k2.block k (by simp; omega) (fun e => by injection e with e; omega)).trans ?_
          exact Below.heap_alloc _ _ _ hk
        have ksz : w.heap.size ≤ (((w.alloc (.cells ((pre.take i).toArray ++ Builtin.zeroCells (Value.string ⟨#[]⟩).cells (n + 1 - i) ++ Builtin.zeroCells (Value.string ⟨#[]⟩).cells (G - (n + 1))) 9)).drew.setCells w.heap.size i [v]).drew.setCells w.heap.size (i + 1) (pre.drop i)).heap.size := Nat.le_trans (Nat.le_trans (by simp) k2.size) m2.size
        refine ⟨some ⟨w.heap.size, 0, none⟩, G, by rw [hlen, hpl], ⟨by rw [hlen]; omega, by rw [hlen, hpl]; exact hge, .inr ⟨w.heap.size, sp', rfl, hBs, m1, by rw [hlen, hf2]; omega⟩⟩, ⟨fun k hk _ => kb k hk, .inr rfl⟩, hbel.trans ⟨m2.os.trans k2.os, m2.tape.trans k2.tape, m2.output.trans k2.output, ksz, fun k hk => kb k (Nat.lt_of_lt_of_le hk hBs)⟩, ksz, hmax⟩
end Go.Proofs.Ytbmgeomndfodpaa
