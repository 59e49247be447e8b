/-
  The contracts of sparse.Set at string.
-/
import Derived.Test.YtepfmmphajdlfaaSetI
import Derived.Test.YtepfmmphajdlfaaRingI
import Derived.Test.YtepfmmphajdlfaaI64
import Derived.Deep.QuietTactic
import Derived.BigQuiet
import Derived.Deep.RegionHeld3
import Derived.IntWalk
import Derived.Laws.MakeOwn
namespace Go.Proofs.Ytepfmmphajdlfaa
open Go.RowKit Go.Mem

def flatS (xs : List (Nat × ByteArray)) : List Value := xs.flatMap fun r => [.int .i64 (r.1 : Int), Value.string r.2]
theorem flatS_length (xs : List (Nat × ByteArray)) : (flatS xs).length = xs.length * 2 := by
  induction xs with
  | nil => rfl
  | cons x r ih => simp only [flatS, List.flatMap_cons, List.length_append, List.length_cons, List.length_nil] at ih ⊢; omega
theorem flatS_app (xs ys : List (Nat × ByteArray)) : flatS (xs ++ ys) = flatS xs ++ flatS ys := by simp [flatS]
theorem flatS_at (xs : List (Nat × ByteArray)) : ∀ (k : Nat) (r : Nat × ByteArray), xs[k]? = some r → (flatS xs)[k * 2]? = some (.int .i64 (r.1 : Int)) ∧ (flatS xs)[k * 2 + 1]? = some (Value.string r.2) := by
  induction xs with
  | nil => intro k r h; simp at h
  | cons x t ih =>
    intro k r h
    cases k with
    | zero => simp at h; subst h; exact ⟨rfl, rfl⟩
    | succ k =>
      have h2 := ih k r (by simpa using h)
      rw [show (k + 1) * 2 = k * 2 + 2 by omega]
      exact h2
def membS (xs : List (Nat × ByteArray)) (i : Int) : Bool := xs.any fun r => (r.1 : Int) == i
def getS (xs : List (Nat × ByteArray)) (i : Int) : ByteArray := match xs.find? (fun r => (r.1 : Int) == i) with | some r => r.2 | none => (⟨#[]⟩ : ByteArray)

/-- a set in the blocks p, g and L's: its size, its members in their order -/
structure StS (w : World) (B p g size : Nat) (L : Option Addr) (c : Nat) (xs : List (Nat × ByteArray)) : Prop where
  obj : Blk w p 132 [.slice (some ⟨g, 0, none⟩) size size, .slice L xs.length c]
  wh : ∃ ws : List Nat, Blk w g 3 (ws.map fun (k : Nat) => Value.int .i64 (k : Int)) ∧ ws.length = size ∧ (∀ k ∈ ws, k ≤ 4096) ∧ ∀ (k : Nat) (r : Nat × ByteArray), xs[k]? = some r → r.1 < size ∧ ws[r.1]? = some k
  own : OwnB w B 134 2 L xs.length c (flatS xs)
  most : size ≤ 4096
  low : B ≤ p ∧ B ≤ g
theorem StS.count {w : World} {B p g size c : Nat} {L : Option Addr} {xs : List (Nat × ByteArray)} (h : StS w B p g size L c xs) : xs.length ≤ size := by
  obtain ⟨ws, _, hl, _, hx⟩ := h.wh
  have hnd : (xs.map (·.1)).Nodup := by
    refine List.pairwise_iff_getElem.2 fun i j hi hj hij e => ?_
    rw [List.length_map] at hi hj
    rw [List.getElem_map, List.getElem_map] at e
    have h1 := (hx i _ (List.getElem?_eq_getElem hi)).2
    have h2 := (hx j _ (List.getElem?_eq_getElem hj)).2
    rw [e, h2] at h1
    injection h1 with h1
    omega
  have hsub : (xs.map (·.1)) ⊆ List.range size := fun a ha => by
    obtain ⟨r, hr, rfl⟩ := List.mem_map.1 ha
    obtain ⟨k, hk⟩ := List.mem_iff_getElem?.1 hr
    exact List.mem_range.2 (hx k r hk).1
  have := hnd.length_le_of_subset hsub
  simpa using this
/-- has i a row, where 'where' leads -/
theorem membS_at {ws : List Nat} {size : Nat} {xs : List (Nat × ByteArray)} (hx : ∀ (k : Nat) (r : Nat × ByteArray), xs[k]? = some r → r.1 < size ∧ ws[r.1]? = some k) (j : Nat) (k : Nat) (hk : ws[j]? = some k) :
    (∀ r, xs[k]? = some r → r.1 = j → membS xs (j : Int) = true ∧ getS xs (j : Int) = r.2) ∧ ((∀ r, xs[k]? = some r → r.1 ≠ j) → membS xs (j : Int) = false ∧ getS xs (j : Int) = (⟨#[]⟩ : ByteArray)) := by
  have hu : ∀ k' r, xs[k']? = some r → r.1 = j → k' = k := fun k' r h1 h2 => by
    have h3 := (hx k' r h1).2
    rw [h2, hk] at h3
    injection h3 with h3; exact h3.symm
  refine ⟨fun r hr hj2 => ?_, fun hno => ?_⟩
  · have hm : r ∈ xs := List.mem_of_getElem? hr
    refine ⟨List.any_eq_true.2 ⟨r, hm, by simp [hj2]⟩, ?_⟩
    unfold getS
    cases hf : xs.find? (fun r => (r.1 : Int) == (j : Int)) with
    | none => exact absurd (List.find?_eq_none.1 hf r hm) (by simp [hj2])
    | some r2 =>
      have h2 := List.find?_some hf
      have h3 := List.mem_of_find?_eq_some hf
      obtain ⟨k2, hk2⟩ := List.mem_iff_getElem?.1 h3
      have h4 : r2.1 = j := by have h6 := beq_iff_eq.1 h2; omega
      have h5 := hu k2 r2 hk2 h4
      subst h5
      rw [hr] at hk2
      injection hk2 with e
      simp [e]
  · have hn : ∀ r ∈ xs, r.1 ≠ j := fun r hr e => by
      obtain ⟨k2, hk2⟩ := List.mem_iff_getElem?.1 hr
      have h5 := hu k2 r hk2 e
      subst h5
      exact hno r hk2 e
    refine ⟨?_, ?_⟩
    · rw [membS, List.any_eq_false]
      intro r hr e
      have h6 := beq_iff_eq.1 e
      exact hn r hr (by omega)
    · unfold getS
      rw [List.find?_eq_none.2 (fun r hr e => by have h6 := beq_iff_eq.1 e; exact hn r hr (by omega))]
theorem membS_out {size : Nat} {ws : List Nat} {xs : List (Nat × ByteArray)} (hx : ∀ (k : Nat) (r : Nat × ByteArray), xs[k]? = some r → r.1 < size ∧ ws[r.1]? = some k) (i : Int) (hi : ¬ (0 ≤ i ∧ i < (size : Int))) : membS xs i = false ∧ getS xs i = (⟨#[]⟩ : ByteArray) := by
  have hn : ∀ r ∈ xs, (r.1 : Int) ≠ i := fun r hr e => by
    obtain ⟨k2, hk2⟩ := List.mem_iff_getElem?.1 hr
    have := (hx k2 r hk2).1
    omega
  refine ⟨?_, ?_⟩
  · rw [membS, List.any_eq_false]
    intro r hr
    simpa using hn r hr
  · unfold getS
    rw [List.find?_eq_none.2 (fun r hr => by simpa using hn r hr)]

theorem StS.below {w w' : World} {B p g size c : Nat} {L : Option Addr} {xs : List (Nat × ByteArray)} (h : StS w B p g size L c xs) (hb : Below w.heap.size w w') : StS w' B p g size L c xs := by
  obtain ⟨ws, h1, h2⟩ := h.wh
  exact ⟨h.obj.below hb h.obj.lt, ⟨ws, h1.below hb h1.lt, h2⟩, h.own.below hb, h.most, h.low⟩
theorem StS.drewN {w : World} {B p g size c : Nat} {L : Option Addr} {xs : List (Nat × ByteArray)} (h : StS w B p g size L c xs) (n : Nat) : StS (w.drewN n) B p g size L c xs := h.below (below_drewN (Below.refl _ _) n)
set_option maxRecDepth 100000 in
set_option maxHeartbeats 1600000 in
theorem hasS_calls (B p g size c : Nat) (L : Option Addr) (xs : List (Nat × ByteArray)) (i : Int) (w : World) (h : StS w B p g size L c xs) :
    Calls Try.prog 50 #[.pointer (some ⟨p, 0, none⟩), .int .i64 i] w fun e w' => e = .returned (.bool (membS xs i)) ∧ w = w' := by
  have hcnt := h.count
  have hmost := h.most
  obtain ⟨ws, hg, hl, hw, hx⟩ := h.wh
  have c0 := h.obj.cell 0
  have c1 := h.obj.cell 1
  simp only [List.getElem?_cons_zero, List.getElem?_cons_succ] at c0 c1
  by_cases hi : 0 ≤ i ∧ i < (size : Int)
  · obtain ⟨j, rfl⟩ := Int.eq_ofNat_of_zero_le hi.1
    have hj : j < size := by have := hi.2; omega
    obtain ⟨k, hk⟩ : ∃ k, ws[j]? = some k := ⟨_, List.getElem?_eq_getElem (by omega)⟩
    have hk0 := hw k (List.mem_of_getElem? hk)
    obtain ⟨m1, m2⟩ := membS_at hx j k hk
    have gj := hg.cell j
    rw [List.getElem?_map, hk, Option.map_some] at gj
    have hd1 : decide ((j : Int) < 0) = false := decide_eq_false (by omega)
    have hd2 : decide ((size : Int) ≤ (j : Int)) = false := decide_eq_false (by omega)
    have hj0 : (0 : Int) ≤ (j : Int) := Int.natCast_nonneg _
    have hj1 : (j : Int) < (size : Int) := by omega
    by_cases hkl : k < xs.length
    · obtain ⟨r, hr⟩ : ∃ r, xs[k]? = some r := ⟨_, List.getElem?_eq_getElem hkl⟩
      have hrow := (flatS_at xs k r hr).1
      obtain ⟨b, o, hL, hc⟩ := h.own.sl _ _ hrow
      subst hL
      have hd3 : decide ((k : Int) < (xs.length : Int)) = true := decide_eq_true (by omega)
      have hk1 : (0 : Int) ≤ (k : Int) := Int.natCast_nonneg _
      by_cases he : r.1 = j
      · have HM := Lib.hid (m1 r hr he).1
        rw [he] at hc
        have hb : ((j : Int) == (j : Int)) = true := by simp
        clear m1 m2 hx hw hg hi hk hl hr hrow he
        go_enter Try.func50, Try.ntmps50
        go_wp2_with fail
        go_ret
        rw [HM.out]
        exact ⟨rfl, rfl⟩
      · have HM := Lib.hid (m2 (fun r2 h2 => by rw [hr] at h2; injection h2 with h2; subst h2; exact he)).1
        have hb : ((r.1 : Int) == (j : Int)) = false := beq_eq_false_iff_ne.2 (by omega)
        clear m1 m2 hx hw hg hi hk hl hr hrow he
        go_enter Try.func50, Try.ntmps50
        go_wp2_with fail
        go_ret
        rw [HM.out]
        exact ⟨rfl, rfl⟩
    · have HM := Lib.hid (m2 (fun r2 h2 => by have := (List.getElem?_eq_some_iff.1 h2).1; omega)).1
      have hd3 : decide ((k : Int) < (xs.length : Int)) = false := decide_eq_false (by omega)
      clear m1 m2 hx hw hg hi hk hl
      go_enter Try.func50, Try.ntmps50
      go_wp2_with fail
      go_ret
      rw [HM.out]
      exact ⟨rfl, rfl⟩
  · have HM := Lib.hid (membS_out hx i hi).1
    by_cases h1 : i < 0
    all_goals
      first
        | (have hd1 : decide (i < 0) = true := decide_eq_true h1)
        | (have hd1 : decide (i < 0) = false := decide_eq_false h1
           have hd2 : decide ((size : Int) ≤ i) = true := decide_eq_true (by omega))
      clear hx hw hg hi hl
      go_enter Try.func50, Try.ntmps50
      go_wp2_with fail
      go_ret
      rw [HM.out]
      exact ⟨rfl, rfl⟩

theorem slenS_calls (B p g size c : Nat) (L : Option Addr) (xs : List (Nat × ByteArray)) (w : World) (h : StS w B p g size L c xs) :
    Calls Try.prog 51 #[.pointer (some ⟨p, 0, none⟩)] w fun e w' => e = .returned (.int .i64 (xs.length : Int)) ∧ w = w' := by
  have c1 := h.obj.cell 1
  simp only [List.getElem?_cons_zero, List.getElem?_cons_succ] at c1
  go_enter Try.func51, Try.ntmps51
  go_wp2_with fail
  go_ret
  exact ⟨rfl, rfl⟩
theorem ssizeS_calls (B p g size c : Nat) (L : Option Addr) (xs : List (Nat × ByteArray)) (w : World) (h : StS w B p g size L c xs) :
    Calls Try.prog 54 #[.pointer (some ⟨p, 0, none⟩)] w fun e w' => e = .returned (.int .i64 (size : Int)) ∧ w = w' := by
  have c0 := h.obj.cell 0
  simp only [List.getElem?_cons_zero] at c0
  go_enter Try.func54, Try.ntmps54
  go_wp2_with fail
  go_ret
  exact ⟨rfl, rfl⟩

def SQuietS (w : World) (v : Value) (e : Ending) (w' : World) : Prop := e = .returned v ∧ ∃ q, w' = w.drewN q
set_option maxRecDepth 100000 in
set_option maxHeartbeats 1600000 in
theorem sgetS_calls (B p g size c : Nat) (L : Option Addr) (xs : List (Nat × ByteArray)) (i : Int) (w : World) (h : StS w B p g size L c xs) :
    Calls Try.prog 52 #[.pointer (some ⟨p, 0, none⟩), .int .i64 i] w (SQuietS w (.tuple #[Value.string (getS xs i), .bool (membS xs i)])) := by
  have HH := Lib.hid (hasS_calls B p g size c L xs i w h)
  have hcnt := h.count
  have hmost := h.most
  obtain ⟨ws, hg, hl, hw, hx⟩ := h.wh
  have c0 := h.obj.cell 0
  have c1 := h.obj.cell 1
  simp only [List.getElem?_cons_zero, List.getElem?_cons_succ] at c0 c1
  by_cases hm : membS xs i = true
  · have hi : 0 ≤ i ∧ i < (size : Int) := Decidable.by_contra fun hn => by rw [(membS_out hx i hn).1] at hm; cases hm
    obtain ⟨j, rfl⟩ := Int.eq_ofNat_of_zero_le hi.1
    have hj : j < size := by have := hi.2; omega
    obtain ⟨k, hk⟩ : ∃ k, ws[j]? = some k := ⟨_, List.getElem?_eq_getElem (by omega)⟩
    obtain ⟨m1, m2⟩ := membS_at hx j k hk
    have hr0 : ∃ r, xs[k]? = some r ∧ r.1 = j := Decidable.by_contra fun hn => by
      have := (m2 (fun r hr e => hn ⟨r, hr, e⟩)).1
      rw [this] at hm; cases hm
    obtain ⟨r, hr, he⟩ := hr0
    have hkl : k < xs.length := (List.getElem?_eq_some_iff.1 hr).1
    have hgt := (m1 r hr he).2
    have gj := hg.cell j
    rw [List.getElem?_map, hk, Option.map_some] at gj
    have hrow := (flatS_at xs k r hr).2
    obtain ⟨b, o, hL, hc⟩ := h.own.sl _ _ hrow
    subst hL
    rw [← Nat.add_assoc] at hc
    have hj0 : (0 : Int) ≤ (j : Int) := Int.natCast_nonneg _
    have hj1 : (j : Int) < (size : Int) := by omega
    have hk0 : (0 : Int) ≤ (k : Int) := Int.natCast_nonneg _
    have hk1 : (k : Int) < (xs.length : Int) := by omega
    rw [hgt, hm]
    rw [hm] at HH
    generalize r.2 = y at hc ⊢
    clear m1 m2 hx hw hg hi hk hl hr hrow he hgt hm h
    go_enter Try.func52, Try.ntmps52
    go_wp2_with fail
    refine HH.out.mono ?_
    rintro e w1 ⟨rfl, rfl⟩
    go_wp2_with fail
    go_quiet (fail)
    go_wp2_with fail
    go_ret2
    exact ⟨rfl, _, rfl⟩
  · have hm2 : membS xs i = false := by simpa using hm
    have hgt : getS xs i = (⟨#[]⟩ : ByteArray) := by
      by_cases hi : 0 ≤ i ∧ i < (size : Int)
      · obtain ⟨j, rfl⟩ := Int.eq_ofNat_of_zero_le hi.1
        have hj : j < size := by have := hi.2; omega
        obtain ⟨k, hk⟩ : ∃ k, ws[j]? = some k := ⟨_, List.getElem?_eq_getElem (by omega)⟩
        obtain ⟨m1, m2⟩ := membS_at hx j k hk
        exact (m2 fun r hr e => by rw [(m1 r hr e).1] at hm2; cases hm2).2
      · exact (membS_out hx i hi).2
    rw [hgt, hm2]
    rw [hm2] at HH
    clear hx hw hg hl hgt hm hm2 h
    go_enter Try.func52, Try.ntmps52
    go_wp2_with fail
    refine HH.out.mono ?_
    rintro e w1 ⟨rfl, rfl⟩
    go_wp2_with fail
    go_ret2
    exact ⟨rfl, 0, rfl⟩

/-- At, on the rows -/
def rowS (xs : List (Nat × ByteArray)) (k : Int) : Option (Nat × ByteArray) := if 0 ≤ k then xs[k.toNat]? else none
def rowVS (r : Option (Nat × ByteArray)) : Value := match r with
  | some r => .tuple #[.int .i64 (r.1 : Int), Value.string r.2, .bool true]
  | none => .tuple #[.int .i64 0, Value.string ⟨#[]⟩, .bool false]
set_option maxRecDepth 100000 in
set_option maxHeartbeats 1600000 in
theorem satS_calls (B p g size c : Nat) (L : Option Addr) (xs : List (Nat × ByteArray)) (k : Int) (w : World) (h : StS w B p g size L c xs) :
    Calls Try.prog 48 #[.pointer (some ⟨p, 0, none⟩), .int .i64 k] w (SQuietS w (rowVS (rowS xs k))) := by
  have hcnt := h.count
  have hmost := h.most
  have c1 := h.obj.cell 1
  simp only [List.getElem?_cons_zero, List.getElem?_cons_succ] at c1
  by_cases hi : 0 ≤ k ∧ k < (xs.length : Int)
  · obtain ⟨j, rfl⟩ := Int.eq_ofNat_of_zero_le hi.1
    have hj : j < xs.length := by have := hi.2; omega
    have hr : xs[j]? = some xs[j] := List.getElem?_eq_getElem hj
    have hrow : rowS xs (j : Int) = some xs[j] := by unfold rowS; rw [if_pos hi.1]; exact hr
    obtain ⟨f0, f1⟩ := flatS_at xs j _ hr
    obtain ⟨b, o, hL, hc0⟩ := h.own.sl _ _ f0
    subst hL
    obtain ⟨b2, o2, hL2, hc1⟩ := h.own.sl _ _ f1
    obtain ⟨rfl, rfl⟩ : b = b2 ∧ o = o2 := by injection hL2 with e; injection e with e1 e2; exact ⟨e1, e2⟩
    rw [← Nat.add_assoc] at hc1
    rw [hrow]
    generalize xs[j] = r at hc0 hc1 ⊢
    have hd1 : decide ((j : Int) < 0) = false := decide_eq_false (by omega)
    have hd2 : decide ((xs.length : Int) ≤ (j : Int)) = false := decide_eq_false (by omega)
    have hk0 : (0 : Int) ≤ (j : Int) := Int.natCast_nonneg _
    have hk1 : (j : Int) < (xs.length : Int) := by omega
    clear hr hrow f0 f1 hi h hL2
    go_enter Try.func48, Try.ntmps48
    go_wp2_with fail
    go_quiet (fail)
    go_wp2_with fail
    go_ret3
    exact ⟨rfl, _, rfl⟩
  · have hrow : rowS xs k = none := by
      unfold rowS
      split
      · exact List.getElem?_eq_none (by omega)
      · rfl
    rw [hrow]
    by_cases h1 : k < 0
    all_goals
      first
        | (have hd1 : decide (k < 0) = true := decide_eq_true h1)
        | (have hd1 : decide (k < 0) = false := decide_eq_false h1
           have hd2 : decide ((xs.length : Int) ≤ k) = true := decide_eq_true (by omega))
      clear h hrow
      go_enter Try.func48, Try.ntmps48
      go_wp2_with fail
      go_ret3
      exact ⟨rfl, 0, rfl⟩

def canS (xs : List (Nat × ByteArray)) (size : Nat) (i : Int) : Bool := decide (0 ≤ i ∧ i < (size : Int)) && !membS xs i
def SEndsS (w : World) (B p g size : Nat) (L : Option Addr) (v : Value) (xs : List (Nat × ByteArray)) (e : Ending) (w' : World) : Prop := ∃ (L' : Option Addr) (c' : Nat), e = .returned v ∧ StS w' B p g size L' c' xs ∧ SFr p g L L' w w'
theorem infoMS : (Try.prog.info? 134).map (fun i => (i.zero, i.size, i.bytes)) = some (some (.agg #[.int .i64 0, Value.string ⟨#[]⟩]), 2, 24) := by kernel_rfl

set_option maxRecDepth 100000 in
set_option maxHeartbeats 1600000 in
theorem saddS_no (B p g size c : Nat) (L : Option Addr) (xs : List (Nat × ByteArray)) (i : Int) (x : ByteArray) (w : World) (h : StS w B p g size L c xs) (hn : canS xs size i = false) :
    Calls Try.prog 47 #[.pointer (some ⟨p, 0, none⟩), .int .i64 i, .string x] w (SEndsS w B p g size L (.bool false) xs) := by
  have HH := Lib.hid (hasS_calls B p g size c L xs i w h)
  have hs := Lib.hid h
  have hmost := h.most
  have c0 := h.obj.cell 0
  simp only [List.getElem?_cons_zero] at c0
  by_cases hi : 0 ≤ i ∧ i < (size : Int)
  · have hm : membS xs i = true := by
      unfold canS at hn
      rw [decide_eq_true hi, Bool.true_and] at hn
      simpa using hn
    rw [hm] at HH
    have hd1 : decide (i < 0) = false := decide_eq_false (by omega)
    have hd2 : decide ((size : Int) ≤ i) = false := decide_eq_false (by omega)
    clear hm hn hi h
    go_enter Try.func47, Try.ntmps47
    go_wp2_with fail
    refine HH.out.mono ?_
    rintro e w1 ⟨rfl, rfl⟩
    go_wp2_with fail
    go_ret
    exact ⟨L, c, rfl, hs.out, SFr.refl _ _ _ _⟩
  · by_cases h1 : i < 0
    all_goals
      first
        | (have hd1 : decide (i < 0) = true := decide_eq_true h1)
        | (have hd1 : decide (i < 0) = false := decide_eq_false h1
           have hd2 : decide ((size : Int) ≤ i) = true := decide_eq_true (by omega))
      clear hn hi h
      go_enter Try.func47, Try.ntmps47
      go_wp2_with fail
      go_ret
      exact ⟨L, c, rfl, hs.out, SFr.refl _ _ _ _⟩

theorem addS_math {ws : List Nat} {size : Nat} {xs : List (Nat × ByteArray)} (hl : ws.length = size) (hx : ∀ (k : Nat) (r : Nat × ByteArray), xs[k]? = some r → r.1 < size ∧ ws[r.1]? = some k) (j : Nat) (hj : j < size) (x : ByteArray) (hm : membS xs (j : Int) = false) :
    ∀ (k : Nat) (r : Nat × ByteArray), (xs ++ [(j, x)])[k]? = some r → r.1 < size ∧ (ws.set j xs.length)[r.1]? = some k := fun k r hr => by
  rcases Nat.lt_or_ge k xs.length with hk | hk
  · rw [List.getElem?_append_left hk] at hr
    obtain ⟨h1, h2⟩ := hx k r hr
    have hne : j ≠ r.1 := fun e => by
      have : membS xs (j : Int) = true := List.any_eq_true.2 ⟨r, List.mem_of_getElem? hr, by rw [e]; simp⟩
      rw [hm] at this; cases this
    exact ⟨h1, by rw [List.getElem?_set_ne hne]; exact h2⟩
  · rw [List.getElem?_append_right hk] at hr
    have hk2 : k = xs.length := by
      have := (List.getElem?_eq_some_iff.1 hr).1
      simp at this; omega
    subst hk2
    rw [Nat.sub_self] at hr
    simp at hr
    subst hr
    exact ⟨hj, List.getElem?_set_self (by omega)⟩

set_option maxRecDepth 100000 in
set_option maxHeartbeats 3200000 in
theorem saddS_ok (B p g size c : Nat) (L : Option Addr) (xs : List (Nat × ByteArray)) (j : Nat) (x : ByteArray) (w : World) (h : StS w B p g size L c xs) (hj : j < size) (hm : membS xs (j : Int) = false) :
    Calls Try.prog 47 #[.pointer (some ⟨p, 0, none⟩), .int .i64 (j : Int), .string x] w (SEndsS w B p g size L (.bool true) (xs ++ [(j, x)])) := by
  have HH := Lib.hid (hasS_calls B p g size c L xs (j : Int) w h)
  rw [hm] at HH
  have hcnt := h.count
  have hmost := h.most
  have hne : p ≠ g := by obtain ⟨ws, hg, _⟩ := h.wh; exact h.obj.ne_ hg (by decide)
  obtain ⟨hB1, hB2⟩ := h.low
  obtain ⟨ws, hg, hl, hw, hx⟩ := h.wh
  have HX := Lib.hid (addS_math hl hx j hj x hm)
  have c0 := h.obj.cell 0
  have c1 := h.obj.cell 1
  simp only [List.getElem?_cons_zero, List.getElem?_cons_succ] at c0 c1
  have gj := hg.cell j
  have fj := hg.frozen j
  rw [List.getElem?_map, List.getElem?_eq_getElem (by omega), Option.map_some] at gj
  generalize ws[j]'(by omega) = old at gj
  have hd1 : decide ((j : Int) < 0) = false := decide_eq_false (by omega)
  have hd2 : decide ((size : Int) ≤ (j : Int)) = false := decide_eq_false (by omega)
  have hj0 : (0 : Int) ≤ (j : Int) := Int.natCast_nonneg _
  have hj1 : (j : Int) < (size : Int) := by omega
  obtain ⟨i0, hi, hz0, hz1, hz2⟩ := info_parts infoMS
  have HOb := Lib.hid h.obj
  have HOw := Lib.hid h.own
  have HG := Lib.hid hg
  have HWl := Lib.hid hl
  have HWm := Lib.hid hw
  clear hg hl hw hx hm h
  go_enter Try.func47, Try.ntmps47
  go_wp2_with fail
  refine HH.out.mono ?_
  rintro e w1 ⟨rfl, rfl⟩
  go_wp2_with fail
  go_region_held3 (fun w' => w'.cell? ⟨p, 0, none⟩ = some (.slice (some ⟨g, 0, none⟩) size size) ∧ w'.cell? ⟨p, 1, none⟩ = some (.slice L xs.length c)) (first | (exact ⟨keep_set1 c0 hne, keep_set1 c1 hne⟩) | go_keep) (first | fail)
  have ho2 := only_set (only_refl w g) j (.int .i64 (xs.length : Int))
  have HOb2 : Hid (Blk (w.setCell ⟨g, j, none⟩ (.int .i64 (xs.length : Int))).drew p 132 [.slice (some ⟨g, 0, none⟩) size size, .slice L xs.length c]) := (show Blk _ _ _ _ from (HOb.out.far (p := ⟨g, j, none⟩) hne (.int .i64 (xs.length : Int))).drew)
  have HOw2 : Hid (OwnB (w.setCell ⟨g, j, none⟩ (.int .i64 (xs.length : Int))).drew B 134 2 L xs.length c (flatS xs)) := (show OwnB _ _ _ _ _ _ _ _ from (HOw.out.only HG.out (by decide) ho2).drewN 1)
  have HG2 : Hid (Blk (w.setCell ⟨g, j, none⟩ (.int .i64 (xs.length : Int))).drew g 3 ((ws.set j xs.length).map fun (k : Nat) => Value.int .i64 (k : Int))) := (show Blk _ _ _ _ by rw [List.map_set]; exact (HG.out.set_ j _).drew)
  have HF2 : Hid (SFr p g L L w (w.setCell ⟨g, j, none⟩ (.int .i64 (xs.length : Int))).drew) := (show SFr _ _ _ _ _ _ from ⟨rfl, rfl, rfl, by simp [World.setCell], fun k hk _ hkg _ => Below.heap_setCell w ⟨g, j, none⟩ _ k hkg, .inl rfl⟩)
  have hpw : p < w.heap.size := HOb.out.lt
  have hgw : g < w.heap.size := HG.out.lt
  have hsz2 : (w.setCell ⟨g, j, none⟩ (.int .i64 (xs.length : Int))).drew.heap.size = w.heap.size := by simp [World.setCell]
  have hBw : B ≤ (w.setCell ⟨g, j, none⟩ (.int .i64 (xs.length : Int))).drew.heap.size := by rw [hsz2]; omega
  have HSz := Lib.hid hsz2
  clear ho2 hsz2 HOb HOw HG c0 c1 gj fj
  generalize (w.setCell ⟨g, j, none⟩ (.int .i64 (xs.length : Int))).drew = w2 at HOb2 HOw2 HG2 HF2 HSz hBw ⊢
  have d1 := HOb2.out.cell 1
  simp only [List.getElem?_cons_zero, List.getElem?_cons_succ] at d1
  go_wp2_with (at_builtin; refine wpList_append_ownK (o := ⟨some 43, _, _, _, _, _⟩) rfl (.tmp 38) (.tmp 42) 130 130 rfl 134 i0 (.agg #[.int .i64 0, Value.string ⟨#[]⟩]) 2 24 Try.underlying130 hi hz0 hz1 hz2 rfl B L xs.length c (flatS xs) rfl (HOw2.out.alloc _) (.slice (some ⟨w2.heap.size, 0, none⟩) 1 1) rfl 1 [.int .i64 (j : Int), .string x] (srcOfSl Try.underlying130 rfl (by omega) (Sl.new rfl rfl) (fun e => by cases e) (by simp [Value.oneCell'])) (by omega) (by omega) w2 ((Below.refl _ _).alloc hBw _) (by simp; omega) ?_)
  intro w3 L3 c3 HO3 HK3 hb3 hsz3
  have hob3 := HK3.out.blk_ne (HOw2.out.alloc _) (HOb2.out.alloc _) (by decide)
  have hg3 := HK3.out.blk_ne (HOw2.out.alloc _) (HG2.out.alloc _) (by decide)
  have e1 := hob3.cell 1
  have f1 := hob3.frozen 1
  simp only [List.getElem?_cons_zero, List.getElem?_cons_succ] at e1
  have hxl : (xs ++ [(j, x)]).length = xs.length + 1 := by simp
  have hob4 := hob3.set_ 1 (.slice L3 (xs.length + 1) c3)
  have hg4 := hg3.far (p := ⟨p, 1, none⟩) (Ne.symm hne) (.slice L3 (xs.length + 1) c3)
  have ho4 : OwnB (w3.setCell ⟨p, 1, none⟩ (.slice L3 (xs.length + 1) c3)) B 134 2 L3 (xs.length + 1) c3 (flatS (xs ++ [(j, x)])) := by
    have h := HO3.out.only hob3 (by decide) (only_set (only_refl w3 p) 1 (.slice L3 (xs.length + 1) c3))
    rw [flatS_app]
    exact h
  have hf4 : SFr p g L L3 w (w3.setCell ⟨p, 1, none⟩ (.slice L3 (xs.length + 1) c3)) := by
    have hF := HF2.out
    have hs := HSz.out
    refine ⟨hb3.os.trans hF.os, hb3.tape.trans hF.tape, hb3.output.trans hF.output, ?_, fun k hk h1 h2 h3 => ?_, ?_⟩
    · have := hb3.size
      simp [World.setCell]
      omega
    · rw [Below.heap_setCell w3 ⟨p, 1, none⟩ _ k h1, HK3.out.1 k (by simp; omega) h3, Below.heap_alloc _ _ _ (by omega)]
      exact hF.block k hk h1 h2 h3
    · rcases HK3.out.2 with h | h
      · exact .inl h
      · exact .inr ⟨_, h, by simp; omega⟩
  have HFin : Hid (SEndsS w B p g size L (.bool true) (xs ++ [(j, x)]) (.returned (.bool true)) (w3.setCell ⟨p, 1, none⟩ (.slice L3 (xs.length + 1) c3))) := (show SEndsS _ _ _ _ _ _ _ _ _ _ from ⟨L3, c3, rfl, ⟨by rw [hxl]; exact hob4, ⟨ws.set j xs.length, hg4, by rw [List.length_set]; exact HWl.out, (fun k hk => by
    rcases List.mem_or_eq_of_mem_set hk with h | h
    · exact HWm.out k h
    · omega), HX.out⟩, by rw [hxl]; exact ho4, hmost, ⟨hB1, hB2⟩⟩, hf4⟩)
  clear HOb2 HOw2 HG2 HF2 HSz HK3 HO3 hb3 hsz3 hob3 hg3 hob4 hg4 ho4 hf4 hxl d1 HX HWl HWm
  go_wp2_with fail
  go_ret
  exact HFin.out

theorem szeroS (w : World) : (zeroValue 134).run Try.prog w = .ok (.agg #[.int .i64 0, Value.string ⟨#[]⟩]) w := by kernel_rfl
theorem zerosS (n : Nat) : ∀ u ∈ (Builtin.zeroCells (Value.agg #[.int .i64 0, Value.string ⟨#[]⟩]).cells n).toList, u.oneCell' = true := by
  intro u hu
  simp only [Builtin.zeroCells, Array.toList_map, List.mem_map] at hu
  obtain ⟨i, _, rfl⟩ := hu
  have h : i % (Value.agg #[.int .i64 0, Value.string ⟨#[]⟩]).cells.size < 2 := Nat.mod_lt _ (by decide)
  generalize i % (Value.agg #[.int .i64 0, Value.string ⟨#[]⟩]).cells.size = k at h
  match k, h with
  | 0, _ => rfl
  | 1, _ => rfl
theorem clearS_run (B n c : Nat) (L : Option Addr) (pre : List Value) (w : World) (h : OwnB w B 134 2 L n c pre) (hB : B ≤ w.heap.size) :
    ∃ w', (∀ ty, (Builtin.clear_ #[130] ty #[.slice L n c]).run Try.prog w = .ok (.tuple #[]) w') ∧ OwnB w' B 134 2 L 0 c [] ∧ Kept w w' L L ∧ Below B w w' := by
  obtain ⟨hl, hnc, hf⟩ := h
  rcases hf with ⟨rfl, rfl, rfl⟩ | ⟨g, sp, rfl, hg, hb, hc⟩
  · refine ⟨w, fun ty => by simp [Builtin.clear_, run_underlying Try.underlying130], OwnB.nil _ _ _ _, ⟨fun _ _ _ => rfl, .inl rfl⟩, Below.refl _ _⟩
  · cases n with
    | zero =>
      refine ⟨w, fun ty => by simp [Builtin.clear_, run_underlying Try.underlying130], ⟨by simp, Nat.zero_le _, .inr ⟨g, sp, rfl, hg, ?_, by simpa using hc⟩⟩, ⟨fun _ _ _ => rfl, .inl rfl⟩, Below.refl _ _⟩
      have : pre = [] := List.eq_nil_of_length_eq_zero (by simpa using hl)
      subst this
      exact hb
    | succ m =>
      have hzl : (Builtin.zeroCells (Value.agg #[.int .i64 0, Value.string ⟨#[]⟩]).cells (m + 1)).toList.length = (m + 1) * 2 := by simp [Builtin.zeroCells, Value.cells]
      have hst := run_storeCells_cells (P := Try.prog) g 0 (Builtin.zeroCells (Value.agg #[.int .i64 0, Value.string ⟨#[]⟩]).cells (m + 1)).toList 0 w
        (fun j hj => by rw [hb.cell, List.getElem?_eq_getElem (by rw [List.length_append]; omega)]; rfl) (fun j _ => hb.frozen _) (zerosS _)
      obtain ⟨k1, k2, k3⟩ := heap_setCells g (Builtin.zeroCells (Value.agg #[.int .i64 0, Value.string ⟨#[]⟩]).cells (m + 1)).toList 0 w (pre ++ sp) _ hb (by rw [List.length_append]; omega)
      have hcl : ∀ ty, (Builtin.clear_ #[130] ty #[.slice (some ⟨g, 0, none⟩) (m + 1) c]).run Try.prog w = .ok (.tuple #[]) (w.setCells g (0 + 0) (Builtin.zeroCells (Value.agg #[.int .i64 0, Value.string ⟨#[]⟩]).cells (m + 1)).toList) := fun ty => by
        simp [Builtin.clear_, run_underlying Try.underlying130, hst]
      generalize (Builtin.zeroCells (Value.agg #[.int .i64 0, Value.string ⟨#[]⟩]).cells (m + 1)).toList = Z at hzl k1 k2 k3 hcl
      refine ⟨_, hcl, ⟨by simp, Nat.zero_le _, .inr ⟨g, Z ++ (pre ++ sp).drop Z.length, rfl, hg, by simpa using k1, ?_⟩⟩, ⟨fun k hk hne => k2.block k hk (fun e => hne (by injection e with e; rw [e])), .inl rfl⟩, below_grown (Below.refl _ _) k2 hB hg⟩
      rw [List.length_append, List.length_drop, List.length_append]
      omega

set_option maxRecDepth 100000 in
set_option maxHeartbeats 1600000 in
theorem sclearS_calls (B p g size c : Nat) (L : Option Addr) (xs : List (Nat × ByteArray)) (w : World) (h : StS w B p g size L c xs) :
    Calls Try.prog 49 #[.pointer (some ⟨p, 0, none⟩)] w (SEndsS w B p g size L (.tuple #[]) []) := by
  have hcnt := h.count
  have hmost := h.most
  obtain ⟨hB1, hB2⟩ := h.low
  obtain ⟨ws, hg, hl, hw, hx⟩ := h.wh
  have hpw := h.obj.lt
  obtain ⟨w2, hcl, ho2, hk2, hb2⟩ := clearS_run B xs.length c L _ w h.own (by omega)
  have hob2 := hk2.blk_ne h.own h.obj (by decide)
  have hg2 := hk2.blk_ne h.own hg (by decide)
  have hne : p ≠ g := h.obj.ne_ hg (by decide)
  have c1 := h.obj.cell 1
  have e1 := hob2.cell 1
  have f1 := hob2.frozen 1
  simp only [List.getElem?_cons_zero, List.getElem?_cons_succ] at c1 e1
  have hob3 := hob2.set_ 1 (.slice L 0 c)
  have hg3 := hg2.far (p := ⟨p, 1, none⟩) (Ne.symm hne) (.slice L 0 c)
  have ho3 := ho2.only hob2 (by decide) (only_set (only_refl w2 p) 1 (.slice L 0 c))
  have hf3 : SFr p g L L w (w2.setCell ⟨p, 1, none⟩ (.slice L 0 c)) := ⟨hb2.os, hb2.tape, hb2.output, by have := hb2.size; simpa [World.setCell] using this, fun k hk h1 h2 h3 => by rw [Below.heap_setCell w2 ⟨p, 1, none⟩ _ k h1]; exact hk2.1 k hk h3, .inl rfl⟩
  have HFin : Hid (SEndsS w B p g size L (.tuple #[]) [] (.returned (.tuple #[])) (w2.setCell ⟨p, 1, none⟩ (.slice L 0 c))) := (show SEndsS _ _ _ _ _ _ _ _ _ _ from ⟨L, c, rfl, ⟨hob3, ⟨ws, hg3, hl, hw, fun k r hr => by simp at hr⟩, ho3, hmost, ⟨hB1, hB2⟩⟩, hf3⟩)
  clear hl hw hx hg hob2 hg2 hob3 hg3 ho2 ho3 hf3 hk2 hb2 h
  go_enter Try.func49, Try.ntmps49
  go_wp2_with (simp only [hcl])
  go_end0
  exact HFin.out

def NewStS (w : World) (size : Nat) (e : Ending) (w' : World) : Prop := ∃ p g, e = .returned (.tuple #[.pointer (some ⟨p, 0, none⟩), .int .i64 0]) ∧ StS w' w.heap.size p g size none 0 [] ∧ Below w.heap.size w w'
set_option maxHeartbeats 800000 in
theorem snewS_ok (size : Nat) (w : World) (h2 : size ≤ 4096) : Calls Try.prog 46 #[.int .i64 (size : Int)] w (NewStS w size) := by
  have hmk := mkI size h2
  have hml : (madeCells (Value.int .i64 0).cells (size * 1)).toList = (List.replicate size 0).map fun (k : Nat) => Value.int .i64 (k : Int) := by
    rw [madeI]; simp [I64]
  generalize madeCells (Value.int .i64 0).cells (size * 1) = M at hmk hml
  have HML := Lib.hid hml
  clear hml
  have hd1 : decide ((size : Int) < 0) = false := decide_eq_false (by omega)
  have hd2 : decide ((4096 : Int) < (size : Int)) = false := decide_eq_false (by omega)
  go_enter Try.func46, Try.ntmps46
  go_wp2_with fail
  go_ret2
  refine ⟨w.heap.size + 1, w.heap.size, rfl, ⟨?_, ⟨List.replicate size 0, ?_, by simp, (fun k hk => by rw [List.eq_of_mem_replicate hk]; omega), fun k r hr => by simp at hr⟩, OwnB.nil _ _ _ _, h2, by omega, Nat.le_refl _⟩, ((Below.refl _ _).alloc (Nat.le_refl _) _).alloc (by simp) _⟩
  · have h := Blk.new (w.alloc (.cells M 3)) 132 #[.slice (some ⟨w.heap.size, 0, none⟩) size size, .slice none 0 0]
    simpa using h
  · have h := (Blk.new w 3 M).alloc (.cells #[.slice (some ⟨w.heap.size, 0, none⟩) size size, .slice none 0 0] 132)
    rw [HML.out] at h
    exact h
theorem snewS_bad (size : Int) (w : World) (h : size < 0 ∨ 4096 < size) : Calls Try.prog 46 #[.int .i64 size] w fun e w' => e = .returned (.tuple #[.pointer none, .int .i64 1]) ∧ w = w' := by
  by_cases h1 : size < 0
  · clear h
    have hd1 : decide (size < 0) = true := decide_eq_true h1
    go_enter Try.func46, Try.ntmps46
    go_wp2_with fail
    go_ret2
    exact ⟨rfl, rfl⟩
  · have hd1 : decide (size < 0) = false := decide_eq_false h1
    have hd2 : decide (4096 < size) = true := decide_eq_true (by omega)
    clear h
    go_enter Try.func46, Try.ntmps46
    go_wp2_with fail
    go_ret2
    exact ⟨rfl, rfl⟩
end Go.Proofs.Ytepfmmphajdlfaa
