/-
  The contracts of ring.Ring at int.
-/
import Derived.Test.YtepmnhlfjidhjaaFr
import Derived.Test.YtepmnhlfjidhjaaI64
import Derived.Deep.QuietTactic
import Derived.BigQuiet
import Derived.Deep.RegionHeld3
import Derived.IntWalk
import Derived.Laws.MakeOwn
import Derived.Deep.DeepCutAuto
namespace Go.Proofs.Ytepmnhlfjidhjaa
open Go.RowKit Go.Mem

/-- a ring of room cells in the blocks p and g: what it holds -/
structure RgI (w : World) (p g room : Nat) (xs : List Int) : Prop where
  body : ∃ (first : Nat) (cs : List Int), first < room ∧ Blk w p 145 [.slice (some ⟨g, 0, none⟩) room room, .int .i64 (first : Int), .int .i64 (xs.length : Int)] ∧ Blk w g 3 (cs.map I64) ∧ cs.length = room ∧ ∀ i x, xs[i]? = some x → cs[(first + i) % room]? = some x
  le : xs.length ≤ room
  most : room ≤ 4096
theorem RgI.ne {w : World} {p g room : Nat} {xs : List Int} (h : RgI w p g room xs) : p ≠ g := by
  obtain ⟨_, _, _, hb, hg, _⟩ := h.body
  exact hb.ne_ hg (by decide)
theorem RgI.lt {w : World} {p g room : Nat} {xs : List Int} (h : RgI w p g room xs) : p < w.heap.size ∧ g < w.heap.size := by
  obtain ⟨_, _, _, hb, hg, _⟩ := h.body
  exact ⟨hb.lt, hg.lt⟩
theorem RgI.fr {w w' : World} {p g room : Nat} {xs : List Int} {bs : List Nat} (h : RgI w p g room xs) (k : Fr bs w w') (hp : p ∉ bs) (hg : g ∉ bs) : RgI w' p g room xs := by
  obtain ⟨f, cs, h1, h2, h3, h4⟩ := h.body
  exact ⟨⟨f, cs, h1, h2.fr k hp, h3.fr k hg, h4⟩, h.le, h.most⟩
theorem RgI.below {w w' : World} {p g room : Nat} {xs : List Int} (h : RgI w p g room xs) (k : Below w.heap.size w w') : RgI w' p g room xs := h.fr (bs := []) (Fr.of_below k) List.not_mem_nil List.not_mem_nil
theorem RgI.drewN {w : World} {p g room : Nat} {xs : List Int} (h : RgI w p g room xs) (n : Nat) : RgI (w.drewN n) p g room xs := h.fr (bs := []) ((Fr.refl _ _).drewN n) List.not_mem_nil List.not_mem_nil
theorem RgI.pos {w : World} {p g room : Nat} {xs : List Int} (h : RgI w p g room xs) : 1 ≤ room := by
  obtain ⟨_, _, h1, _⟩ := h.body; omega

theorem cellI_calls (p g room first i : Nat) (n : Int) (w : World) (hb : Blk w p 145 [.slice (some ⟨g, 0, none⟩) room room, .int .i64 (first : Int), .int .i64 n]) (hf : first < room) (hr : room ≤ 4096) (hi : i ≤ 4096) :
    Calls Try.prog 110 #[.pointer (some ⟨p, 0, none⟩), .int .i64 (i : Int)] w fun e w' => e = .returned (.int .i64 (((first + i) % room : Nat) : Int)) ∧ ∃ q, w' = w.drewN q := by
  have c0 := hb.cell 0
  have c1 := hb.cell 1
  simp only [List.getElem?_cons_zero, List.getElem?_cons_succ] at c0 c1
  have hw : IntKind.i64.wrap ((first : Int) + (i : Int)) = (first : Int) + (i : Int) := IntWalk.i64_in _ (by omega)
  have hne : ((room : Int) == 0) = false := beq_eq_false_iff_ne.2 (by omega)
  have HM := Lib.hid (show ((first : Int) + (i : Int)).tmod (room : Int) = (((first + i) % room : Nat) : Int) by rw [Int.tmod_eq_emod_of_nonneg (by omega)]; simp)
  go_enter Try.func110, Try.ntmps110
  go_wp2_with fail
  go_quiet (fail)
  go_wp2_with fail
  go_ret
  exact ⟨congrArg (fun z => Ending.returned (.int .i64 z)) (by simp), nq, rfl⟩

/-- Put, on the list -/
def putI (xs : List Int) (room : Nat) (x : Int) : List Int := if xs.length < room then xs ++ [x] else xs
def RgEndsI (w : World) (p g room : Nat) (v : Value) (xs : List Int) (e : Ending) (w' : World) : Prop := e = .returned v ∧ RgI w' p g room xs ∧ Fr [p, g] w w'

theorem ringPutI_math {first room : Nat} {cs xs : List Int} {x : Int} (hc : cs.length = room) (hf : first < room) (hl : xs.length < room) (h : ∀ i y, xs[i]? = some y → cs[(first + i) % room]? = some y) :
    ∀ i y, (xs ++ [x])[i]? = some y → (cs.set ((first + xs.length) % room) x)[(first + i) % room]? = some y := fun i y hy => by
  rcases Nat.lt_trichotomy i xs.length with hi | hi | hi
  · rw [List.getElem?_append_left hi] at hy
    rw [List.getElem?_set_ne (Ne.symm (mod_ne hi (by omega)))]
    exact h i y hy
  · subst hi
    rw [List.getElem?_append_right (Nat.le_refl _), Nat.sub_self] at hy
    rw [List.getElem?_set_self (by rw [hc]; exact Nat.mod_lt _ (by omega))]
    exact hy
  · rw [List.getElem?_eq_none (by simp; omega)] at hy
    cases hy

set_option maxHeartbeats 800000 in
theorem putI_calls (p g room : Nat) (xs : List Int) (x : Int) (w : World) (h : RgI w p g room xs) :
    Calls Try.prog 38 #[.pointer (some ⟨p, 0, none⟩), .int .i64 x] w (RgEndsI w p g room (.bool (decide (xs.length < room))) (putI xs room x)) := by
  have hne := h.ne
  have hle := h.le
  have hmost := h.most
  obtain ⟨first, cs, hf, hb, hg, hc, hx⟩ := h.body
  have c0 := hb.cell 0
  have c1 := hb.cell 1
  have c2 := hb.cell 2
  simp only [List.getElem?_cons_zero, List.getElem?_cons_succ] at c0 c1 c2
  by_cases hl : xs.length < room
  · have HP := Lib.hid (show putI xs room x = xs ++ [x] from if_pos hl)
    have HX := Lib.hid (ringPutI_math (x := x) hc hf hl hx)
    have hj : (first + xs.length) % room < room := Nat.mod_lt _ (by omega)
    have HC := Lib.hid (fun W (hW : Blk W p 145 [.slice (some ⟨g, 0, none⟩) room room, .int .i64 (first : Int), .int .i64 (xs.length : Int)]) => cellI_calls p g room first xs.length (xs.length : Int) W hW hf hmost (by omega))
    have gj := hg.cell ((first + xs.length) % room)
    have fj := hg.frozen ((first + xs.length) % room)
    have f2 := hb.frozen 2
    rw [List.getElem?_map, List.getElem?_eq_getElem (by rw [hc]; exact hj), Option.map_some] at gj
    generalize cs[(first + xs.length) % room]'(by rw [hc]; exact hj) = old at gj
    generalize (first + xs.length) % room = j at hj gj fj HX HC
    have hd : ((xs.length : Int) == (room : Int)) = false := beq_eq_false_iff_ne.2 (by omega)
    have i0 : (0 : Int) ≤ (j : Int) := Int.natCast_nonneg _
    have i1 : (j : Int) < (room : Int) := by omega
    have HB := Lib.hid hb
    have HG := Lib.hid hg
    clear hx
    go_enter Try.func38, Try.ntmps38
    go_wp2_with fail
    go_quiet (fail)
    go_wp2_with fail
    go_region_held3 (fun w' => w'.cell? ⟨p, 0, none⟩ = some (.slice (some ⟨g, 0, none⟩) room room) ∧ w'.cell? ⟨p, 2, none⟩ = some (.int .i64 (xs.length : Int))) (first | (exact ⟨keep_set1 c0 hne, keep_set1 c2 hne⟩) | go_keep) (first | (go_at_call 110; refine (HC.out _ (by exact HB.out)).mono ?_; rintro e w' ⟨rfl, q, rfl⟩))
    have hb1 : Blk (w.drewN (nq + 1 + q)) p 145 [.slice (some ⟨g, 0, none⟩) room room, .int .i64 (first : Int), .int .i64 (xs.length : Int)] := HB.out
    have hg1 : Blk (w.drewN (nq + 1 + q)) g 3 (cs.map I64) := HG.out
    have hf1 : Fr [p, g] w (w.drewN (nq + 1 + q)) := (Fr.refl _ _).drewN _
    generalize w.drewN (nq + 1 + q) = w1 at hb1 hg1 hf1 ⊢
    have hb2 := hb1.far (p := ⟨g, j, none⟩) hne (.int .i64 x)
    have hg2 : Blk (w1.setCell ⟨g, j, none⟩ (.int .i64 x)) g 3 ((cs.set j x).map I64) := by rw [List.map_set]; exact hg1.set_ j (.int .i64 x)
    have hf2 := hf1.set (p := g) (o := j) (by simp) (.int .i64 x)
    generalize w1.setCell ⟨g, j, none⟩ (.int .i64 x) = w2 at hb2 hg2 hf2 ⊢
    have e0 := hb2.cell 0
    have e2 := hb2.cell 2
    have ef2 := hb2.frozen 2
    simp only [List.getElem?_cons_zero, List.getElem?_cons_succ] at e0 e2
    clear c0 c1 c2 f2 gj fj hb1 hg1 hf1 HC
    have hb3 := hb2.set_ 2 (.int .i64 ((xs.length + 1 : Nat) : Int))
    have hg3 := hg2.far (p := ⟨p, 2, none⟩) (Ne.symm hne) (.int .i64 ((xs.length + 1 : Nat) : Int))
    have hf3 := hf2.set (p := p) (o := 2) (by simp) (.int .i64 ((xs.length + 1 : Nat) : Int))
    simp only [List.set_cons_zero, List.set_cons_succ] at hb3
    go_wp2_with fail
    go_ret
    have hd2 : decide (xs.length < room) = true := decide_eq_true hl
    rw [HP.out, hd2]
    exact ⟨rfl, ⟨⟨first, cs.set j x, hf, by rw [List.length_append]; exact hb3, hg3, by rw [List.length_set]; exact hc, HX.out⟩, by rw [List.length_append]; exact hl, hmost⟩, hf3⟩
  · have HP := Lib.hid (show putI xs room x = xs from if_neg hl)
    have hd : ((xs.length : Int) == (room : Int)) = true := beq_iff_eq.2 (by omega)
    have h0 := Lib.hid h
    clear hx hb hg h
    go_enter Try.func38, Try.ntmps38
    go_wp2_with fail
    go_quiet (fail)
    go_wp2_with fail
    go_ret
    have hd2 : decide (xs.length < room) = false := decide_eq_false hl
    rw [HP.out, hd2]
    exact ⟨rfl, h0.out.drewN _, (Fr.refl _ _).drewN _⟩

theorem lenI_calls (p g room : Nat) (xs : List Int) (w : World) (h : RgI w p g room xs) :
    Calls Try.prog 49 #[.pointer (some ⟨p, 0, none⟩)] w fun e w' => e = .returned (.int .i64 (xs.length : Int)) ∧ w = w' := by
  obtain ⟨first, cs, hf, hb, _⟩ := h.body
  have c2 := hb.cell 2
  simp only [List.getElem?_cons_zero, List.getElem?_cons_succ] at c2
  go_enter Try.func49, Try.ntmps49
  go_wp2_with fail
  go_ret
  exact ⟨rfl, rfl⟩

/-- At, on the list -/
def atI (xs : List Int) (i : Int) : Int := if 0 ≤ i ∧ i < (xs.length : Int) then xs.getD i.toNat 0 else 0
def inI (xs : List Int) (i : Int) : Bool := decide (0 ≤ i ∧ i < (xs.length : Int))
def Quiet2 (w : World) (v : Value) (e : Ending) (w' : World) : Prop := e = .returned v ∧ ∃ q, w' = w.drewN q

set_option maxHeartbeats 800000 in
theorem atI_calls (p g room : Nat) (xs : List Int) (i : Int) (w : World) (h : RgI w p g room xs) :
    Calls Try.prog 47 #[.pointer (some ⟨p, 0, none⟩), .int .i64 i] w (Quiet2 w (.tuple #[I64 (atI xs i), .bool (inI xs i)])) := by
  have hle := h.le
  have hmost := h.most
  obtain ⟨first, cs, hf, hb, hg, hc, hx⟩ := h.body
  have c0 := hb.cell 0
  have c1 := hb.cell 1
  have c2 := hb.cell 2
  simp only [List.getElem?_cons_zero, List.getElem?_cons_succ] at c0 c1 c2
  by_cases hi : 0 ≤ i ∧ i < (xs.length : Int)
  · obtain ⟨k, rfl⟩ := Int.eq_ofNat_of_zero_le hi.1
    have hk : k < xs.length := by have := hi.2; omega
    have HA := Lib.hid (show atI xs (k : Int) = xs[k] by unfold atI; rw [if_pos hi]; simp [List.getD, hk])
    have HI := Lib.hid (show inI xs (k : Int) = true from decide_eq_true hi)
    have hcx := hx k _ (List.getElem?_eq_getElem hk)
    have hj : (first + k) % room < room := Nat.mod_lt _ (by omega)
    have HC := Lib.hid (fun W (hW : Blk W p 145 [.slice (some ⟨g, 0, none⟩) room room, .int .i64 (first : Int), .int .i64 (xs.length : Int)]) => cellI_calls p g room first k (xs.length : Int) W hW hf hmost (by omega))
    have gj := hg.cell ((first + k) % room)
    rw [List.getElem?_map, hcx, Option.map_some] at gj
    unfold I64 at gj
    generalize xs[k] = y at gj HA hcx
    generalize (first + k) % room = j at hj gj HC
    have hd1 : decide ((k : Int) < 0) = false := decide_eq_false (by omega)
    have hd2 : decide ((xs.length : Int) ≤ (k : Int)) = false := decide_eq_false (by omega)
    have i0 : (0 : Int) ≤ (j : Int) := Int.natCast_nonneg _
    have i1 : (j : Int) < (room : Int) := by omega
    have HB := Lib.hid hb
    clear hx hcx hi
    go_enter Try.func47, Try.ntmps47
    go_wp2_with fail
    go_quiet ((go_at_call 110; exact Calls.quiet_of (HC.out _ (by exact HB.out))))
    go_wp2_with fail
    go_ret2
    rw [HA.out, HI.out]
    exact ⟨rfl, _, rfl⟩
  · have HA := Lib.hid (show atI xs i = 0 from if_neg hi)
    have HI := Lib.hid (show inI xs i = false from decide_eq_false hi)
    by_cases h0 : i < 0
    · have hd1 : decide (i < 0) = true := decide_eq_true h0
      clear hx
      go_enter Try.func47, Try.ntmps47
      go_wp2_with fail
      go_ret2
      rw [HA.out, HI.out]
      exact ⟨rfl, 0, rfl⟩
    · have hd1 : decide (i < 0) = false := decide_eq_false h0
      have hd2 : decide ((xs.length : Int) ≤ i) = true := decide_eq_true (by omega)
      clear hx
      go_enter Try.func47, Try.ntmps47
      go_wp2_with fail
      go_ret2
      rw [HA.out, HI.out]
      exact ⟨rfl, 0, rfl⟩

/-- Drop, on the list: how many -/
def dropI (xs : List Int) (n : Int) : Nat := (max 0 (min n (xs.length : Int))).toNat
theorem dropI_le (xs : List Int) (n : Int) : dropI xs n ≤ xs.length := by unfold dropI; omega

set_option maxHeartbeats 1600000 in
theorem dropI_calls (p g room : Nat) (xs : List Int) (n : Int) (w : World) (h : RgI w p g room xs) (hn : -9223372036854775808 ≤ n ∧ n ≤ 9223372036854775807) :
    Calls Try.prog 44 #[.pointer (some ⟨p, 0, none⟩), .int .i64 n] w (RgEndsI w p g room (.int .i64 (dropI xs n : Int)) (xs.drop (dropI xs n))) := by
  have hne := h.ne
  have hle := h.le
  have hmost := h.most
  obtain ⟨first, cs, hf, hb, hg, hc, hx⟩ := h.body
  have hm := dropI_le xs n
  have c0 := hb.cell 0
  have c1 := hb.cell 1
  have c2 := hb.cell 2
  simp only [List.getElem?_cons_zero, List.getElem?_cons_succ] at c0 c1 c2
  go_enter Try.func44, Try.ntmps44
  go_upto_region 1 with fail
  go_cut [1] (fun s1 wx => s1 = .int .i64 (dropI xs n : Int) ∧ wx = w)
  case first =>
    go_wp2_with fail
    all_goals
      go_meet
      refine ⟨congrArg (Value.int .i64) ?_, rfl⟩
      unfold dropI
      omega
  case rest =>
    obtain ⟨rfl, hw⟩ := hcut
    subst hw
    generalize hm0 : dropI xs n = m at hm
    have HM := Lib.hid hm0
    clear hm0
    go_wp2_with fail
    have HB := Lib.hid hb
    have HG : Hid (∃ cs' : List Int, cs'.length = room ∧ Blk wc g 3 (cs'.map I64) ∧ ∀ i x, 0 ≤ i → xs[i]? = some x → cs'[(first + i) % room]? = some x) := show ∃ _, _ from ⟨cs, hc, hg, fun i x _ => hx i x⟩
    have HF0 : Fr [p, g] wc wc := Fr.refl _ _
    clear hb hg hx hc c0 c1 c2
    go_loopw [5, 6, 15] (fun _ _ k wr => ∃ j : Nat, j ≤ m ∧ k = .int .i64 j ∧ Hid (Blk wr p 145 [.slice (some ⟨g, 0, none⟩) room room, .int .i64 (first : Int), .int .i64 (xs.length : Int)]) ∧ Hid (∃ cs' : List Int, cs'.length = room ∧ Blk wr g 3 (cs'.map I64) ∧ ∀ i x, j ≤ i → xs[i]? = some x → cs'[(first + i) % room]? = some x) ∧ Fr [p, g] wc wr) (fun _ _ k _ => m - (intOf k).toNat)
    case atStart => exact ⟨0, Nat.zero_le _, rfl, HB, HG, HF0⟩
    case round =>
      clear HB HG HF0
      obtain ⟨j, hj, rfl, HB, HG, HF⟩ := hrel
      by_cases hlt : j < m
      · obtain ⟨cs, hc, hg, hx⟩ := HG.out
        have HX : Hid (∀ i x, j + 1 ≤ i → xs[i]? = some x → (cs.set ((first + j) % room) 0)[(first + i) % room]? = some x) := show ∀ _, _ from fun i x hi hix => by
          have hil : i < xs.length := (List.getElem?_eq_some_iff.1 hix).1
          rw [List.getElem?_set_ne (mod_ne (show j < i by omega) (by omega))]
          exact hx i x (by omega) hix
        have hjr : (first + j) % room < room := Nat.mod_lt _ (by omega)
        have HC := Lib.hid (fun W (hW : Blk W p 145 [.slice (some ⟨g, 0, none⟩) room room, .int .i64 (first : Int), .int .i64 (xs.length : Int)]) => cellI_calls p g room first j (xs.length : Int) W hW hf hmost (by omega))
        have c0 := HB.out.cell 0
        simp only [List.getElem?_cons_zero] at c0
        have gj := hg.cell ((first + j) % room)
        have fj := hg.frozen ((first + j) % room)
        rw [List.getElem?_map, List.getElem?_eq_getElem (by rw [hc]; exact hjr), Option.map_some] at gj
        generalize cs[(first + j) % room]'(by rw [hc]; exact hjr) = old at gj
        generalize (first + j) % room = r at hjr gj fj HX HC
        have i0 : (0 : Int) ≤ (r : Int) := Int.natCast_nonneg _
        have i1 : (r : Int) < (room : Int) := by omega
        have HG1 := Lib.hid hg
        have HCL := Lib.hid hc
        clear hx hc hg HG
        go_wp2_with fail
        go_region_held3 (fun w' => w'.cell? ⟨p, 0, none⟩ = some (.slice (some ⟨g, 0, none⟩) room room)) (first | (exact keep_set1 c0 hne) | go_keep) (first | (go_at_call 110; refine (HC.out _ (by exact HB.out)).mono ?_; rintro e w' ⟨rfl, q, rfl⟩))
        have hb1 : Blk (wr.drewN (1 + q)) p 145 [.slice (some ⟨g, 0, none⟩) room room, .int .i64 (first : Int), .int .i64 (xs.length : Int)] := HB.out
        have hg1 : Blk (wr.drewN (1 + q)) g 3 (cs.map I64) := HG1.out
        have hf1 : Fr [p, g] wc (wr.drewN (1 + q)) := HF.drewN _
        clear HB HG1 HF c0 gj fj HC
        have hb2 := hb1.far (p := ⟨g, r, none⟩) hne (Value.int .i64 0)
        have hg2 : Blk ((wr.drewN (1 + q)).setCell ⟨g, r, none⟩ (Value.int .i64 0)) g 3 ((cs.set r 0).map I64) := by rw [List.map_set]; exact hg1.set_ r (Value.int .i64 0)
        have hf2 := hf1.set (p := g) (o := r) (by simp) (Value.int .i64 0)
        have HG2 : Hid (∃ cs' : List Int, cs'.length = room ∧ Blk ((wr.drewN (1 + q)).setCell ⟨g, r, none⟩ (Value.int .i64 0)) g 3 (cs'.map I64) ∧ ∀ i x, j + 1 ≤ i → xs[i]? = some x → cs'[(first + i) % room]? = some x) := show ∃ _, _ from ⟨cs.set r 0, by rw [List.length_set]; exact HCL.out, hg2, HX.out⟩
        have HB2 := Lib.hid hb2
        clear hb1 hg1 hf1 hb2 hg2 HX
        generalize (wr.drewN (1 + q)).setCell ⟨g, r, none⟩ (Value.int .i64 0) = w2 at HB2 HG2 hf2 ⊢
        go_wp2_with fail
        go_roundw
        case rel => exact ⟨j + 1, by omega, by go_num, HB2, HG2, hf2⟩
        case measure => simp [intOf]; omega
      · obtain rfl : j = m := by omega
        have HC := Lib.hid (cellI_calls p g room first j (xs.length : Int) wr HB.out hf hmost (by omega))
        have hjr : (first + j) % room < room := Nat.mod_lt _ (by omega)
        generalize hr : (first + j) % room = r at hjr HC
        have HR := Lib.hid hr
        clear hr
        have f1 := HB.out.frozen 1
        have f2 := HB.out.frozen 2
        have c1 := HB.out.cell 1
        have c2 := HB.out.cell 2
        simp only [List.getElem?_cons_zero, List.getElem?_cons_succ] at c1 c2
        go_wp2_with fail
        refine HC.out.mono ?_
        rintro e w' ⟨rfl, q, rfl⟩
        have HXL := Lib.hid (show ((xs.drop j).length : Int) = (xs.length : Int) - (j : Int) by rw [List.length_drop]; omega)
        have hb3 : Blk (((wr.drewN q).setCell ⟨p, 1, none⟩ (.int .i64 (r : Int))).setCell ⟨p, 2, none⟩ (.int .i64 ((xs.length : Int) - (j : Int)))) p 145 [.slice (some ⟨g, 0, none⟩) room room, .int .i64 (r : Int), .int .i64 ((xs.length : Int) - (j : Int))] := ((HB.out.drewN q).set_ 1 (.int .i64 (r : Int))).set_ 2 (.int .i64 ((xs.length : Int) - (j : Int)))
        have hf3 := ((HF.drewN q).set (p := p) (o := 1) (by simp) (.int .i64 (r : Int))).set (p := p) (o := 2) (by simp) (.int .i64 ((xs.length : Int) - (j : Int)))
        have HRg : Hid (RgI (((wr.drewN q).setCell ⟨p, 1, none⟩ (.int .i64 (r : Int))).setCell ⟨p, 2, none⟩ (.int .i64 ((xs.length : Int) - (j : Int)))) p g room (xs.drop j)) := by
          obtain ⟨cs, hc, hg, hx⟩ := HG.out
          have hg3 := ((hg.drewN q).far (p := ⟨p, 1, none⟩) (Ne.symm hne) (.int .i64 (r : Int))).far (p := ⟨p, 2, none⟩) (Ne.symm hne) (.int .i64 ((xs.length : Int) - (j : Int)))
          show RgI _ _ _ _ _
          refine ⟨⟨r, cs, hjr, by rw [HXL.out]; exact hb3, hg3, hc, fun i x hi => ?_⟩, by rw [List.length_drop]; omega, hmost⟩
          rw [List.getElem?_drop] at hi
          have h1 := hx (j + i) x (by omega) hi
          rw [← HR.out, Nat.mod_add_mod, Nat.add_assoc]
          exact h1
        clear HB HG HF hb3 HC HXL
        go_wp2_with fail
        go_ret
        rw [HM.out]
        exact ⟨rfl, HRg.out, hf3⟩

set_option maxHeartbeats 800000 in
theorem takeI_calls (p g room : Nat) (xs : List Int) (w : World) (h : RgI w p g room xs) :
    Calls Try.prog 41 #[.pointer (some ⟨p, 0, none⟩)] w (RgEndsI w p g room (.tuple #[I64 (atI xs 0), .bool (inI xs 0)]) (xs.drop 1)) := by
  have H0 := Lib.hid (atI_calls p g room xs 0 w h)
  have hd : xs.drop (dropI xs 1) = xs.drop 1 := by
    unfold dropI
    cases xs with
    | nil => rfl
    | cons x r => rw [show (max 0 (min 1 (((x :: r).length : Nat) : Int))).toNat = 1 by simp only [List.length_cons]; omega]
  have H1 := Lib.hid (fun q => dropI_calls p g room xs 1 (w.drewN q) (h.drewN q) (by decide))
  rw [hd] at H1
  have hk : ∀ x, I64 x = .int .i64 x := fun _ => rfl
  rw [hk] at H0 ⊢
  generalize atI xs 0 = y at H0
  generalize inI xs 0 = b at H0
  clear hk hd h
  go_enter Try.func41, Try.ntmps41
  go_wp2_with fail
  refine H0.out.mono ?_
  unfold Quiet2
  rintro e w1 ⟨rfl, q, rfl⟩
  go_wp2_with fail
  refine (H1.out q).mono ?_
  unfold RgEndsI
  rintro e w2 ⟨rfl, h2, f2⟩
  go_wp2_with fail
  go_ret2
  exact ⟨rfl, h2, f2.undrew⟩

theorem infoRI : (Try.prog.info? 3).map (fun i => (i.zero, i.size, i.bytes)) = some (some (Value.int .i64 0), 1, 8) := by kernel_rfl
theorem madeI (n : Nat) : (madeCells (Value.int .i64 0).cells (n * 1)).toList = (List.replicate n 0).map I64 := by
  apply List.ext_getElem
  · simp [madeCells]
  · intro i h1 h2; simp [madeCells, Value.cells, Nat.mod_one, I64]
theorem mkI (n : Nat) (hn : n ≤ 4096) (u : World) : (Instr.makeSlice 51 (.int .i64 (n : Int)) (.int .i64 (n : Int))).run Try.prog u =
      .ok (.slice (some ⟨u.heap.size, 0, none⟩) n n) (u.alloc (.cells (madeCells (Value.int .i64 0).cells (n * 1)) 3)) := by
  obtain ⟨i0, hi, hz0, hz1, hz2⟩ := info_parts infoRI
  have h := run_make (P := Try.prog) u 51 3 i0 (Value.int .i64 0) Try.underlying51 hi hz0 .i64 .i64 (n : Int) (n : Int) (by omega) (Int.le_refl _) (by rw [hz2]; omega) (by omega)
  rw [Int.toNat_natCast, hz1] at h
  exact h

def NewRgI (w : World) (room : Nat) (e : Ending) (w' : World) : Prop := ∃ p g, e = .returned (.tuple #[.pointer (some ⟨p, 0, none⟩), .int .i64 0]) ∧ RgI w' p g room [] ∧ w.heap.size ≤ p ∧ w.heap.size ≤ g ∧ Below w.heap.size w w'

set_option maxHeartbeats 800000 in
theorem newI_ok (room : Nat) (w : World) (h1 : 1 ≤ room) (h2 : room ≤ 4096) : Calls Try.prog 35 #[.int .i64 (room : Int)] w (NewRgI w room) := by
  have hmk := mkI room h2
  have hml := madeI room
  generalize madeCells (Value.int .i64 0).cells (room * 1) = M at hmk hml
  have HML := Lib.hid hml
  clear hml
  have hd1 : decide ((room : Int) < 1) = false := decide_eq_false (by omega)
  have hd2 : decide ((4096 : Int) < (room : Int)) = false := decide_eq_false (by omega)
  go_enter Try.func35, Try.ntmps35
  go_wp2_with fail
  go_ret2
  refine ⟨w.heap.size + 1, w.heap.size, rfl, ⟨⟨0, List.replicate room 0, by omega, ?_, ?_, by simp, fun i x hi => by simp at hi⟩, Nat.zero_le _, h2⟩, by omega, Nat.le_refl _, ((Below.refl _ _).alloc (Nat.le_refl _) _).alloc (by simp) _⟩
  · have h := Blk.new (w.alloc (.cells M 3)) 145 #[.slice (some ⟨w.heap.size, 0, none⟩) room room, .int .i64 0, .int .i64 0]
    simpa using h
  · have h := (Blk.new w 3 M).alloc (.cells #[.slice (some ⟨w.heap.size, 0, none⟩) room room, .int .i64 0, .int .i64 0] 145)
    rw [HML.out] at h
    exact h
theorem newI_bad (room : Int) (w : World) (h : room < 1 ∨ 4096 < room) : Calls Try.prog 35 #[.int .i64 room] w fun e w' => e = .returned (.tuple #[.pointer none, .int .i64 1]) ∧ w = w' := by
  by_cases h1 : room < 1
  · clear h
    have hd1 : decide (room < 1) = true := decide_eq_true h1
    go_enter Try.func35, Try.ntmps35
    go_wp2_with fail
    go_ret2
    exact ⟨rfl, rfl⟩
  · have hd1 : decide (room < 1) = false := decide_eq_false h1
    have hd2 : decide (4096 < room) = true := decide_eq_true (by omega)
    clear h
    go_enter Try.func35, Try.ntmps35
    go_wp2_with fail
    go_ret2
    exact ⟨rfl, rfl⟩

def ListEndsI (w : World) (xs : List Int) (e : Ending) (w' : World) : Prop := e = .returned (.slice (some ⟨w.heap.size, 0, none⟩) xs.length xs.length) ∧ Blk w' w.heap.size 3 (xs.map I64) ∧ Below w.heap.size w w'
theorem listI_math (xs : List Int) (j : Nat) (hj : j < xs.length) : (xs.take j ++ List.replicate (xs.length - j) 0).set j xs[j] = xs.take (j + 1) ++ List.replicate (xs.length - (j + 1)) 0 := by
  rw [List.set_append_right _ _ (by simp; omega), List.take_succ_eq_append_getElem hj]
  obtain ⟨r, hr⟩ : ∃ r, xs.length - j = r + 1 := ⟨xs.length - j - 1, by omega⟩
  rw [hr, show xs.length - (j + 1) = r by omega]
  rw [List.length_take, Nat.min_eq_left (Nat.le_of_lt hj), Nat.sub_self, List.replicate_succ, List.set_cons_zero, List.append_assoc, List.singleton_append]

set_option maxHeartbeats 1600000 in
theorem listI_calls (p g room : Nat) (xs : List Int) (w : World) (h : RgI w p g room xs) :
    Calls Try.prog 114 #[.pointer (some ⟨p, 0, none⟩)] w (ListEndsI w xs) := by
  have hne := h.ne
  have hle := h.le
  have hmost := h.most
  have hlt := h.lt
  obtain ⟨first, cs, hf, hb, hg, hc, hx⟩ := h.body
  have c2 := hb.cell 2
  simp only [List.getElem?_cons_zero, List.getElem?_cons_succ] at c2
  have hmk := mkI xs.length (by omega)
  have hml := madeI xs.length
  generalize madeCells (Value.int .i64 0).cells (xs.length * 1) = M at hmk hml
  have hb1 := hb.alloc (.cells M 3)
  have hg1 := hg.alloc (.cells M 3)
  have hh1 : Blk (w.alloc (.cells M 3)) w.heap.size 3 ((xs.take 0 ++ List.replicate (xs.length - 0) 0).map I64) := by
    have h := Blk.new w 3 M
    rw [hml] at h
    exact h
  have hB1 : Below w.heap.size w (w.alloc (.cells M 3)) := (Below.refl _ _).alloc (Nat.le_refl _) _
  clear hml
  have HB := Lib.hid hb1
  have HG := Lib.hid hg1
  have HH := Lib.hid hh1
  have HX := Lib.hid hx
  have HCL := Lib.hid hc
  clear hb hg hb1 hg1 hh1 hx hc h
  go_enter Try.func114, Try.ntmps114
  go_wp2_with fail
  clear hmk c2
  go_loopw [4, 12] (fun _ k wr => ∃ j : Nat, j ≤ xs.length ∧ k = .int .i64 j ∧ Hid (Blk wr p 145 [.slice (some ⟨g, 0, none⟩) room room, .int .i64 (first : Int), .int .i64 (xs.length : Int)]) ∧ Hid (Blk wr g 3 (cs.map I64)) ∧ Hid (Blk wr w.heap.size 3 ((xs.take j ++ List.replicate (xs.length - j) 0).map I64)) ∧ Below w.heap.size w wr) (fun _ k _ => xs.length - (intOf k).toNat)
  case atStart => exact ⟨0, Nat.zero_le _, rfl, HB, HG, HH, hB1⟩
  case round =>
    clear HB HG HH hB1
    obtain ⟨j, hj, rfl, HB, HG, HH, hB⟩ := hrel
    by_cases hjl : j < xs.length
    · have hr : (first + j) % room < room := Nat.mod_lt _ (by omega)
      have hcx := HX.out j _ (List.getElem?_eq_getElem hjl)
      have hlm := listI_math xs j hjl
      have HC := Lib.hid (fun W (hW : Blk W p 145 [.slice (some ⟨g, 0, none⟩) room room, .int .i64 (first : Int), .int .i64 (xs.length : Int)]) => cellI_calls p g room first j (xs.length : Int) W hW hf hmost (by omega))
      have c0 := HB.out.cell 0
      simp only [List.getElem?_cons_zero] at c0
      have gj := HG.out.cell ((first + j) % room)
      rw [List.getElem?_map, hcx, Option.map_some] at gj
      unfold I64 at gj
      have hjc := HH.out.cell j
      have hjf := HH.out.frozen j
      rw [List.getElem?_map, List.getElem?_append_right (by simp; omega), List.getElem?_replicate, if_pos (by simp; omega), Option.map_some] at hjc
      unfold I64 at hjc
      generalize xs[j] = y at hcx gj hlm
      generalize (first + j) % room = r at hr gj HC hcx
      have HLM := Lib.hid hlm
      clear hlm hcx
      have i0 : (0 : Int) ≤ (r : Int) := Int.natCast_nonneg _
      have i1 : (r : Int) < (room : Int) := by omega
      have k0 : (0 : Int) ≤ (j : Int) := Int.natCast_nonneg _
      have k1 : (j : Int) < (xs.length : Int) := by omega
      have hne1 : p ≠ w.heap.size := Nat.ne_of_lt hlt.1
      have hne2 : g ≠ w.heap.size := Nat.ne_of_lt hlt.2
      go_wp2_with fail
      go_region_held3 (fun w' => w'.cell? ⟨p, 0, none⟩ = some (.slice (some ⟨g, 0, none⟩) room room) ∧ w'.cell? ⟨g, r, none⟩ = some (.int .i64 y)) (first | (exact ⟨keep_set1 c0 hne1, keep_set1 gj hne2⟩) | go_keep) (first | (go_at_call 110; refine (HC.out _ (by exact HB.out)).mono ?_; rintro e w' ⟨rfl, q, rfl⟩))
      have HB2 := Lib.hid ((HB.out.drewN (1 + q)).far (p := ⟨w.heap.size, j, none⟩) hne1 (.int .i64 y))
      have HG2 := Lib.hid ((HG.out.drewN (1 + q)).far (p := ⟨w.heap.size, j, none⟩) hne2 (.int .i64 y))
      have HH2 : Hid (Blk ((wr.drewN (1 + q)).setCell ⟨w.heap.size, j, none⟩ (.int .i64 y)) w.heap.size 3 ((xs.take (j + 1) ++ List.replicate (xs.length - (j + 1)) 0).map I64)) := by
        show Blk _ _ _ _
        rw [← HLM.out, List.map_set]
        exact (HH.out.drewN (1 + q)).set_ j (.int .i64 y)
      have hB2 : Below w.heap.size w ((wr.drewN (1 + q)).setCell ⟨w.heap.size, j, none⟩ (.int .i64 y)) := (below_drewN hB (1 + q)).setCell (Nat.le_refl _) _
      clear HB HG HH hB c0 gj hjc hjf HC HLM
      generalize (wr.drewN (1 + q)).setCell ⟨w.heap.size, j, none⟩ (.int .i64 y) = w2 at HB2 HG2 HH2 hB2 ⊢
      go_wp2_with fail
      go_roundw
      case rel => exact ⟨j + 1, by omega, by go_num, HB2, HG2, HH2, hB2⟩
      case measure => simp [intOf]; omega
    · obtain rfl : j = xs.length := by omega
      have hh := HH.out
      rw [List.take_of_length_le (Nat.le_refl _), Nat.sub_self, List.replicate_zero, List.append_nil] at hh
      have HH2 := Lib.hid hh
      clear HH hh
      go_wp2_with fail
      go_ret
      exact ⟨rfl, HH2.out, hB⟩

end Go.Proofs.Ytepmnhlfjidhjaa
