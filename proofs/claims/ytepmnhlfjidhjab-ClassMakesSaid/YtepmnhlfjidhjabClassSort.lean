/-
  The contracts of Make's closure and of slices.SortFunc at ranges.
-/
import Derived.Test.YtepmnhlfjidhjabClass
import Derived.Shelf.SlSortCmp.WholeK
import Derived.Shelf.SlSortCmp.NoneTotal
import Derived.Shelf.Lay
import Derived.Ground.SlsfProg
namespace Go.Proofs.Ytepmnhlfjidhjab
open Go.RowKit Go.Mem Go.Proofs Go.Shelf
shelf_lay_g SlLaysF0.n6 Slsf 6 at Try 46 as sortR

def encR (x : Int × Int) : List Value := [.int .i32 x.1, .int .i32 x.2]
def cmpR (x y : Int × Int) : Int := if x.1 < y.1 then -1 else if y.1 < x.1 then 1 else 0
theorem ltR (x y : Int × Int) : ltOf cmpR x y = decide (x.1 < y.1) := by
  unfold ltOf cmpR
  by_cases h1 : x.1 < y.1
  · simp [h1]
  · by_cases h2 : y.1 < x.1 <;> simp [h1, h2]
theorem swoR : Sort.SWO (ltOf cmpR) where
  irrefl x := by rw [ltR]; simp
  trans x y z h1 h2 := by rw [ltR] at *; simp at *; omega
  ntrans x y z h1 h2 := by rw [ltR] at *; simp at *; omega
set_option maxHeartbeats 1000000 in
theorem closure_calls (x y : Int × Int) (W : World) : Calls Try.prog 47 #[.agg #[.int .i32 x.1, .int .i32 x.2], .agg #[.int .i32 y.1, .int .i32 y.2]] W fun e w' => e = .returned (.int .i64 (cmpR x y)) ∧ ∃ q os', w' = Sort.grow (W.drewN q) os' := by
  have hcon := fun W' => compare_calls x.1 y.1 W'
  unfold cmpR
  generalize (if x.1 < y.1 then (-1 : Int) else if y.1 < x.1 then 1 else 0) = r at hcon ⊢
  go_enter Try.func47, Try.ntmps47
  go_wp2_with fail
  refine (hcon _).mono ?_
  rintro e w' ⟨rfl, rfl⟩
  go_wp2_with fail
  go_ret
  exact ⟨rfl, 0, _, by rw [Sort.alloc_eq_grow, Sort.alloc_eq_grow, Sort.grow_grow]; rfl⟩
theorem flatK_flat (l : List (Int × Int)) : (Sort.flatK encR 2 l.toArray).toList = flatR l := by
  refine List.ext_getElem? fun t => ?_
  rw [Array.getElem?_toList]
  by_cases ht : t < l.length * 2
  · have h1 : (Sort.flatK encR 2 l.toArray)[t]? = some ((encR l.toArray[t / 2]!)[t % 2]!) := by
      rw [Array.getElem?_eq_getElem (by rw [Sort.size_flatK]; simpa using ht)]
      have := Sort.get_flatK encR 2 l.toArray t (by simpa using ht)
      rw [getElem!_pos _ t (by rw [Sort.size_flatK]; simpa using ht)] at this
      rw [this]
    have hk : t / 2 < l.length := by omega
    have h2 : l.toArray[t / 2]! = l[t / 2] := by rw [getElem!_pos _ _ (by simpa using hk)]; simp
    obtain ⟨a1, a2⟩ := flatR_at l (t / 2) l[t / 2] (List.getElem?_eq_getElem hk)
    rw [h1, h2]
    rcases Nat.mod_two_eq_zero_or_one t with h | h
    · have e : t / 2 * 2 = t := by omega
      rw [e] at a1
      rw [a1, h]; rfl
    · have e : t / 2 * 2 + 1 = t := by omega
      rw [e] at a2
      rw [a2, h]; rfl
  · rw [Array.getElem?_eq_none (by rw [Sort.size_flatK]; simp; omega), List.getElem?_eq_none (by rw [flatR_length]; omega)]
theorem put_blk {w : World} {g : Nat} {t : TypeId} {F F' : Array Value} {sp : List Value} (h : Blk w g t (F.toList ++ sp)) (hs : F'.size = F.size) : Blk (Sort.putRow id w g 0 F') g t (F'.toList ++ sp) := by
  unfold Blk Sort.putRow Sort.mapBlock at *
  simp only [Array.getElem?_modify, if_true, h, Option.map_some, Sort.onCells, Option.some.injEq, Obj.cells.injEq, and_true]
  apply Array.ext_getElem?
  intro k
  unfold Sort.putCells
  simp only [Array.getElem?_mapIdx, List.getElem?_toArray]
  by_cases hk : k < F'.size
  · rw [List.getElem?_append_left (by simp; omega), List.getElem?_append_left (by simpa using hk), Array.getElem?_toList, Array.getElem?_toList, Array.getElem?_eq_getElem (by omega), Array.getElem?_eq_getElem hk]
    simp [hk, getElem!_pos]
  · rw [List.getElem?_append_right (by simp; omega), List.getElem?_append_right (by simp; omega)]
    simp only [Array.length_toList, hs]
    cases sp[k - F.size]? with
    | none => rfl
    | some v => simp; omega
theorem grow_at (w : World) (os : Array Obj) (i : Nat) (h : i < w.heap.size) : (Sort.grow w os).heap[i]? = w.heap[i]? := by
  show (w.heap ++ os)[i]? = _
  rw [Array.getElem?_append_left h]
theorem put_other (w : World) (g : Nat) (F : Array Value) (i : Nat) (h : i ≠ g) : (Sort.putRow id w g 0 F).heap[i]? = w.heap[i]? := by
  unfold Sort.putRow Sort.mapBlock
  simp only [Array.getElem?_modify]
  rw [if_neg (fun e => h e.symm)]
theorem put_size (w : World) (g : Nat) (F : Array Value) : (Sort.putRow id w g 0 F).heap.size = w.heap.size := by
  unfold Sort.putRow Sort.mapBlock
  simp
theorem srt_of {l : List (Int × Int)} : ∀ {m : Int}, l.Pairwise (fun x y => x.1 ≤ y.1) → (∀ g ∈ l, m ≤ g.1) → Cls.Srt m l := by
  induction l with
  | nil => intro m _ _; exact trivial
  | cons g l ih =>
    intro m hp hm
    have h1 := List.pairwise_cons.1 hp
    exact ⟨hm g List.mem_cons_self, ih h1.2 h1.1⟩
/-- what slices.SortFunc leaves of ranges of the call's own -/
def SortEnds (w : World) (B : Nat) (D : Option Addr) (n cap : Nat) (l : List (Int × Int)) (e : Ending) (w' : World) : Prop :=
  e = .returned (.tuple #[]) ∧ ∃ l' : List (Int × Int), l'.Perm l ∧ l'.Pairwise (fun x y => x.1 ≤ y.1) ∧ OwnB w' B 61 2 D n cap (flatR l') ∧ Below B w w' ∧ w.heap.size ≤ w'.heap.size
theorem sort_calls (l : List (Int × Int)) (D : Option Addr) (n cap B : Nat) (w : World) (hl : l.length = n) (hn : n ≤ 1099511627776) (ho : OwnB w B 61 2 D n cap (flatR l)) :
    Calls Try.prog 46 #[.slice D n cap, .func (.func 47) #[] #[]] w (SortEnds w B D n cap l) := by
  by_cases h0 : n = 0
  · subst h0
    obtain rfl : l = [] := List.eq_nil_of_length_eq_zero hl
    refine (AnyF.slices_SortFunc_none sortR D cap (.func (.func 47) #[] #[]) w).mono fun e w' ⟨h1, h2⟩ => ?_
    subst h2
    exact ⟨h1, [], List.Perm.refl _, List.Pairwise.nil, ho, Below.refl _ _, Nat.le_refl _⟩
  · obtain ⟨h1, h2, h3⟩ := ho
    rcases h3 with ⟨_, h, _⟩ | ⟨g, sp, rfl, hg, hb, hc⟩
    · exact absurd h h0
    · have eg : ∀ args w, (callFunc 47 args).run Try.prog w = .ok (.enter 47 args) w := enters_of Try.func47 (by kernel_rfl) rfl
      have hH : Sort.HoldsK encR 2 w g 0 l.toArray := fun j hj => by
        have hj2 : j < (flatR l).length := by rw [← flatK_flat, Array.length_toList]; exact hj
        refine ⟨?_, hb.frozen _⟩
        rw [Nat.zero_add, hb.cell, List.getElem?_append_left hj2, ← flatK_flat, Array.getElem?_toList, Array.getElem?_eq_getElem hj, getElem!_pos _ j hj]
        rfl
      have hsz : l.toArray.size = n := by simpa using hl
      have hcon := AnyQ.slices_SortFunc sortR 2 Try.isAgg61 Try.sizeOf61 encR (fun _ => rfl) (fun x v hv => by simp [encR] at hv; rcases hv with rfl | rfl <;> rfl) cmpR swoR 47 #[] g 0 cap l.toArray w eg (fun _ _ _ _ x y => closure_calls x y _) hH hb.lt (by rw [hsz]; omega)
      rw [hsz] at hcon
      refine hcon.mono fun e w' ⟨he, d', nn, os, hp, hso, hw⟩ => ?_
      have hs1 : d'.size = n := hp.1.trans hsz
      have hd : d'.toList.toArray = d' := Array.toArray_toList
      have e2 : l.toArray.extract 0 n = l.toArray := by rw [← hsz]; exact Array.extract_size
      have e1 : d'.extract 0 n = d' := by rw [← hs1]; exact Array.extract_size
      have hF : (Sort.flatK encR 2 d').toList = flatR d'.toList := by rw [← flatK_flat, hd]
      have hsF : (Sort.flatK encR 2 d').size = (Sort.flatK encR 2 l.toArray).size := by rw [Sort.size_flatK, Sort.size_flatK, hs1, hsz]
      have hb0 : Blk (Sort.ahead w nn) g 61 ((Sort.flatK encR 2 l.toArray).toList ++ sp) := by rw [flatK_flat]; exact hb
      have hb1 := put_blk hb0 hsF
      have hgs : g < (Sort.putRow id (Sort.ahead w nn) g 0 (Sort.flatK encR 2 d')).heap.size := by rw [put_size]; exact hb.lt
      have hws : w'.heap.size = w.heap.size + os.size := by
        rw [hw]
        show ((Sort.putRow id (Sort.ahead w nn) g 0 (Sort.flatK encR 2 d')).heap ++ os).size = _
        rw [Array.size_append, put_size]; rfl
      refine ⟨he, d'.toList, ?_, ?_, ?_, ?_, by omega⟩
      · have h4 := hp.2.2
        rw [e1, e2] at h4
        exact h4
      · refine List.pairwise_iff_getElem.2 fun i j hi hj hij => ?_
        rw [Array.length_toList] at hi hj
        have h5 := hso i j (Nat.zero_le _) hij (by omega)
        rw [ltR, getElem!_pos _ i hi, getElem!_pos _ j hj] at h5
        have h6 := of_decide_eq_false h5
        rw [Array.getElem_toList, Array.getElem_toList]
        omega
      · refine ⟨by rw [flatR_length, Array.length_toList, hs1], h2, .inr ⟨g, sp, rfl, hg, ?_, hc⟩⟩
        rw [← hF, hw]
        exact (grow_at _ os g hgs).trans hb1
      · refine ⟨by rw [hw]; rfl, by rw [hw]; rfl, by rw [hw]; rfl, by omega, fun i hi => ?_⟩
        have hig : i ≠ g := by omega
        have hiw : i < w.heap.size := by have := hb.lt; omega
        rw [hw]
        exact (grow_at _ os i (by rw [Sort.putRowK, put_size]; exact hiw)).trans (put_other _ g _ i hig)
end Go.Proofs.Ytepmnhlfjidhjab
