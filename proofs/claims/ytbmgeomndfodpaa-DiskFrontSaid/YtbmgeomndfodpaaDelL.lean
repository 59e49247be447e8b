/-
  slices.Delete of one element at rows of byte slices.
-/
import Derived.Test.YtbmgeomndfodpaaInsL
import Derived.Lib.SliceRun
namespace Go.Proofs.Ytbmgeomndfodpaa
open Go.RowKit Go.Mem Go.Proofs

/-- append, where its run is known, at a step of a region that draws its order -/
theorem step_append_runL {P : Program} {ops : Array Oper} {o : Oper} {a : Act} {w : World} {K : Act → World → Prop} {Q : Exit → Act → World → Prop} {E : Prop}
    (hg : o.guard = none) (s x : Operand) (t tx : TypeId) (hop : o.op = Op.call { callee := Callee.builtin Builtin.append, args := #[s, x], argTypes := #[t, tx] })
    (v u : Value) (hd : a.eval s = v) (hx : a.eval x = u) {v' : Value} {w' : World} (hr : (Builtin.append_ #[t, tx] o.type #[v, u]).run P w = .ok v' w') (hK : K (a.put o.dst v') w') :
    if Region.wanted o (yielded ops a.tmps) = true then Oper.wp P o a w K Q else E := by
  have hw : Region.wanted o (yielded ops a.tmps) = true := by simp [Region.wanted, hg]
  rw [if_pos hw]
  unfold Oper.wp
  simp [execOp, hop, resolve, invoke, builtin, hd, hx, hr, Result.andThen]
  exact hK

/-- clear of one element -/
theorem run_clear_rowL {P : Program} (w : World) (t e ty : TypeId) (z : Value) (g o c : Nat) (cur : List Value) (te : TypeId) (ht : P.underlying t = some (.slice e)) (hv : ∀ w, (zeroValue e).run P w = .ok z w) (hb : Blk w g te cur) (hfit : o + z.cells.toList.length ≤ cur.length) (h1 : ∀ u ∈ z.cells.toList, u.oneCell' = true) :
    (Builtin.clear_ #[t] ty #[.slice (some ⟨g, o, none⟩) 1 c]).run P w = .ok (.tuple #[]) (w.setRow g (cur.take o ++ z.cells.toList ++ cur.drop (o + z.cells.toList.length)).toArray) := by
  have hzc : (Builtin.zeroCells z.cells 1).toList = z.cells.toList := by
    apply List.ext_getElem
    · simp [Builtin.zeroCells]
    · intro i h1 h2
      have : i < z.cells.size := by simpa using h2
      simp [Builtin.zeroCells, Nat.mod_eq_of_lt this, getElem!_pos z.cells i this]
  have hst := run_storeCells_at P g o te z.cells.toList 0 cur.toArray w hb (by simpa using hfit) h1
  simp only [Nat.add_zero] at hst
  simp [Builtin.clear_, run_underlying ht, hv, hzc, hst]

def DelEndsL (w0 w : World) (B : Nat) (D : Option Addr) (n c : Nat) (l : List Value) (e : Ending) (w' : World) : Prop := e = .returned (.slice D n c) ∧ OwnB w' B 27 1 D n c l ∧ Kept w w' D D ∧ Below B w0 w' ∧ w.heap.size ≤ w'.heap.size
theorem zvL : ∀ w, (zeroValue 27).run Try.prog w = .ok zL w := fun _ => by kernel_rfl
set_option maxRecDepth 100000 in
theorem deleteL_calls (B : Nat) (D : Option Addr) (n c i : Nat) (pre : List Value) (w0 w : World) (ho : OwnB w B 27 1 D n c pre) (hi : i < n) (hn : n ≤ 1000000) (h1 : ∀ u ∈ pre, u.oneCell' = true) (hbel : Below B w0 w) (hBs : B ≤ w.heap.size) :
    Calls Try.prog 114 #[.slice D n c, .int .i64 (i : Int), .int .i64 ((i + 1 : Nat) : Int)] w (DelEndsL w0 w B D (n - 1) c (pre.take (i) ++ pre.drop ((i + 1)))) := by
  obtain ⟨inf, hinf, hz, hsz0, hby⟩ := info_parts infoL
  have hpl : pre.length = n := by have := ho.len; omega
  have hnc := ho.le
  rcases ho.2.2 with ⟨_, h0, _⟩ | ⟨g, sp, rfl, hgB, hb, hcap⟩
  · omega
  obtain ⟨news, hnews⟩ : ∃ news, news = pre.drop ((i + 1)) := ⟨_, rfl⟩
  have hnl : news.length = (n - (i + 1)) := by rw [hnews, List.length_drop, hpl]
  obtain ⟨A, hA, hsrc⟩ : ∃ A : Addr, (if c = i + 1 then (⟨g, 0, none⟩ : Addr) else ⟨g, (i + 1), none⟩) = A ∧ ∀ t u, news[t]? = some u → w.drew.cell? (A.add t) = some u := by
    by_cases h : c = i + 1
    · refine ⟨⟨g, 0, none⟩, by simp [h], fun t u hu => ?_⟩
      have h0 : news = [] := List.eq_nil_of_length_eq_zero (by rw [hnl]; omega)
      rw [h0] at hu; simp at hu
    · refine ⟨⟨g, (i + 1), none⟩, by simp [h], fun t u hu => ?_⟩
      rw [hnews, List.getElem?_drop] at hu
      have hlt := (List.getElem?_eq_some_iff.1 hu).1
      rw [Addr.add_lit]
      exact (hb.drew.cell _).trans (by rw [List.getElem?_append_left hlt]; exact hu)
  have hs := Src.ofSlice (P := Try.prog) (size := 1) (tx := 59) w.drew Try.underlying59 A (n - (i + 1)) (c - (i + 1)) news (by rw [hnl, Nat.mul_one]) hsrc (fun u hu => h1 u (List.mem_of_mem_drop (hnews ▸ hu)))
  have hcl : (pre ++ sp).length = c := by rw [List.length_append, hpl]; omega
  have hap := fun ty => run_append_room_src (P := Try.prog) w.drew 59 59 ty 27 inf Try.underlying59 hinf g 0 i c (.slice (some A) (n - (i + 1)) (c - (i + 1))) (n - (i + 1)) news (by rw [hsz0]; exact hs) (by omega)
    (fun j hj => by rw [hb.drew.cell, hsz0, List.getElem?_eq_getElem (by rw [hcl]; omega)]; rfl) (fun j _ => hb.drew.frozen _)
  rw [hsz0, Nat.zero_add, Nat.mul_one, show i + (n - (i + 1)) = n - 1 by omega] at hap
  obtain ⟨b1, k1, s1⟩ := heap_setCells g news (i) w.drew (pre ++ sp) 27 hb.drew (by rw [hcl]; omega)
  obtain ⟨r1, hr1⟩ : ∃ r1, r1 = (pre ++ sp).take (i) ++ (news ++ (pre ++ sp).drop (i + news.length)) := ⟨_, rfl⟩
  rw [← hr1] at b1
  have hr1l : r1.length = c := by simp only [hr1, List.length_append, List.length_take, List.length_drop]; omega
  generalize w.drew.setCells g (i) news = W1 at hap b1 k1 s1
  have hzl : zL.cells.toList.length = 1 := rfl
  obtain ⟨r2, hr2⟩ : ∃ r2, r2 = r1.take ((n - 1)) ++ zL.cells.toList ++ r1.drop ((n - 1) + zL.cells.toList.length) := ⟨_, rfl⟩
  have hcr : ∀ ty, (Builtin.clear_ #[59] ty #[.slice (some ⟨g, (n - 1), none⟩) (n - (n - 1)) (c - (n - 1))]).run Try.prog W1 = .ok (.tuple #[]) (W1.setRow g r2.toArray) := fun ty => by
    rw [show n - (n - 1) = 1 by omega, hr2]
    exact run_clear_rowL W1 _ _ ty zL g _ _ r1 _ Try.underlying59 zvL b1 (by rw [hzl, hr1l]; omega) (by intro u hu; simp [zL, Value.cells] at hu; subst hu; rfl)
  have hfin : DelEndsL w0 w B (some ⟨g, 0, none⟩) (n - 1) c (pre.take (i) ++ pre.drop ((i + 1))) (.returned (.slice (some ⟨g, 0, none⟩) (n - 1) c)) (W1.setRow g r2.toArray) := by
    have e : ∃ sp', r2 = (pre.take (i) ++ pre.drop ((i + 1))) ++ sp' ∧ sp'.length = c - (n - 1) := by
      have a1 : (pre ++ sp).take (i) = pre.take (i) := List.take_append_of_le_length (by omega)
      have a2 : r1.take ((n - 1)) = pre.take (i) ++ pre.drop ((i + 1)) := by
        rw [hr1, a1, ← List.append_assoc, List.take_append_of_le_length (by rw [List.length_append, List.length_take]; omega), List.take_of_length_le (by rw [List.length_append, List.length_take]; omega), hnews]
      exact ⟨zL.cells.toList ++ r1.drop ((n - 1) + zL.cells.toList.length), by rw [hr2, a2, List.append_assoc], by rw [List.length_append, List.length_drop, hr1l, hzl]; omega⟩
    obtain ⟨sp', e, hsp'⟩ := e
    obtain ⟨m1, m2, m3⟩ := setRow_grownL b1 r2
    rw [e] at m1 m2 m3 ⊢
    have kk : w.grownBy (W1.setRow g ((pre.take (i) ++ pre.drop ((i + 1))) ++ sp').toArray) (some g) := only_trans ⟨k1.os, k1.tape, k1.output, k1.size, k1.block⟩ m2
    refine ⟨rfl, ⟨?_, by omega, .inr ⟨g, sp', rfl, hgB, m1, ?_⟩⟩, ⟨fun k hk hd => kk.block k hk (fun e => hd (by injection e with e; rw [e])), .inl rfl⟩, below_grown hbel kk hBs hgB, kk.size⟩
    · rw [List.length_append, List.length_take, List.length_drop]; omega
    · rw [hsp']; omega
  have HFin := Lib.hid hfin
  unfold DelEndsL
  clear hfin
  have hcast : ((i + 1 : Nat) : Int) = (i : Int) + 1 := by omega
  rw [hcast]
  have hz2 : ¬ ((i : Int) = (i : Int) + 1) := by omega
  have hb1 : (0 : Int) ≤ (i : Int) + 1 := by omega
  have hb2 : (i : Int) ≤ (i : Int) + 1 := by omega
  have hb3 : (i : Int) + 1 ≤ (n : Int) := by omega
  have hb4 : (n : Int) ≤ (c : Int) := by omega
  have hb5 : (i : Int) + 1 ≤ (c : Int) := by omega
  have hb6 : (i : Int) ≤ (c : Int) := by omega
  have htn : ((i : Int) + 1).toNat = i + 1 := by omega
  have hb7 : n - 1 ≤ n := by omega
  have hb8 : ¬ (c = n - 1) := by omega
  have hb9 : ((n - 1 : Nat) : Int) ≤ (n : Int) := by omega
  have hb10 : ((n - 1 : Nat) : Int) ≤ (c : Int) := by omega
  have mixed : Try.prog.follows .mixedOrders = true := by kernel_rfl
  clear hr1 hr2 k1 s1 hbel hnews hs hsrc ho hcast
  have hA' : (if c = i + 1 then (some ⟨g, 0, none⟩ : Option Addr) else some ⟨g, (i + 1), none⟩) = some A := by rw [← hA]; split <;> rfl
  clear hA
  go_enter Try.func114, Try.ntmps114
  go_wp2_with fail
  go_region_law_o (refine step_append_runL rfl _ _ 59 59 rfl (.slice (some ⟨g, 0, none⟩) i c) (.slice (some A) (n - (i + 1)) (c - (i + 1))) (by simp [Act.eval, Act.put]) (by simp [Act.eval, Act.put]) (hap _) ?_)
  go_wp2
  go_ret
  exact HFin.out
end Go.Proofs.Ytbmgeomndfodpaa
