/-
  The contracts of ring.Ring at string.
-/
import Derived.Test.YtepmnhlfjidhjaaRingI2
import Derived.Test.YtepmnhlfjidhjaaI64
import Derived.Deep.QuietTactic
import Derived.BigQuiet
import Derived.Deep.RegionHeld3
import Derived.IntWalk
import Derived.Laws.MakeOwn
import Derived.Deep.DeepCutAuto
namespace Go.Proofs.Ytepmnhlfjidhjaa
open Go.RowKit Go.Mem

/-- a ring of room cells in the blocks p and g: what it holds -/
structure RgS (w : World) (p g room : Nat) (xs : List ByteArray) : Prop where
  body : ∃ (first : Nat) (cs : List ByteArray), first < room ∧ Blk w p 147 [.slice (some ⟨g, 0, none⟩) room room, .int .i64 (first : Int), .int .i64 (xs.length : Int)] ∧ Blk w g 9 (cs.map Value.string) ∧ cs.length = room ∧ ∀ i x, xs[i]? = some x → cs[(first + i) % room]? = some x
  le : xs.length ≤ room
  most : room ≤ 4096
theorem RgS.ne {w : World} {p g room : Nat} {xs : List ByteArray} (h : RgS w p g room xs) : p ≠ g := by
  obtain ⟨_, _, _, hb, hg, _⟩ := h.body
  exact hb.ne_ hg (by decide)
theorem RgS.lt {w : World} {p g room : Nat} {xs : List ByteArray} (h : RgS w p g room xs) : p < w.heap.size ∧ g < w.heap.size := by
  obtain ⟨_, _, _, hb, hg, _⟩ := h.body
  exact ⟨hb.lt, hg.lt⟩
theorem RgS.fr {w w' : World} {p g room : Nat} {xs : List ByteArray} {bs : List Nat} (h : RgS w p g room xs) (k : Fr bs w w') (hp : p ∉ bs) (hg : g ∉ bs) : RgS w' p g room xs := by
  obtain ⟨f, cs, h1, h2, h3, h4⟩ := h.body
  exact ⟨⟨f, cs, h1, h2.fr k hp, h3.fr k hg, h4⟩, h.le, h.most⟩
theorem RgS.below {w w' : World} {p g room : Nat} {xs : List ByteArray} (h : RgS w p g room xs) (k : Below w.heap.size w w') : RgS w' p g room xs := h.fr (bs := []) (Fr.of_below k) List.not_mem_nil List.not_mem_nil
theorem RgS.drewN {w : World} {p g room : Nat} {xs : List ByteArray} (h : RgS w p g room xs) (n : Nat) : RgS (w.drewN n) p g room xs := h.fr (bs := []) ((Fr.refl _ _).drewN n) List.not_mem_nil List.not_mem_nil
theorem RgS.pos {w : World} {p g room : Nat} {xs : List ByteArray} (h : RgS w p g room xs) : 1 ≤ room := by
  obtain ⟨_, _, h1, _⟩ := h.body; omega

theorem cellS_calls (p g room first i : Nat) (n : Int) (w : World) (hb : Blk w p 147 [.slice (some ⟨g, 0, none⟩) room room, .int .i64 (first : Int), .int .i64 n]) (hf : first < room) (hr : room ≤ 4096) (hi : i ≤ 4096) :
    Calls Try.prog 111 #[.pointer (some ⟨p, 0, none⟩), .int .i64 (i : Int)] w fun e w' => e = .returned (.int .i64 (((first + i) % room : Nat) : Int)) ∧ ∃ q, w' = w.drewN q := by
  have c0 := hb.cell 0
  have c1 := hb.cell 1
  simp only [List.getElem?_cons_zero, List.getElem?_cons_succ] at c0 c1
  have hw : IntKind.i64.wrap ((first : Int) + (i : Int)) = (first : Int) + (i : Int) := IntWalk.i64_in _ (by omega)
  have hne : ((room : Int) == 0) = false := beq_eq_false_iff_ne.2 (by omega)
  have HM := Lib.hid (show ((first : Int) + (i : Int)).tmod (room : Int) = (((first + i) % room : Nat) : Int) by rw [Int.tmod_eq_emod_of_nonneg (by omega)]; simp)
  go_enter Try.func111, Try.ntmps111
  go_wp2_with fail
  go_quiet (fail)
  go_wp2_with fail
  go_ret
  exact ⟨congrArg (fun z => Ending.returned (.int .i64 z)) (by simp), nq, rfl⟩

/-- Put, on the list -/
def putS (xs : List ByteArray) (room : Nat) (x : ByteArray) : List ByteArray := if xs.length < room then xs ++ [x] else xs
def RgEndsS (w : World) (p g room : Nat) (v : Value) (xs : List ByteArray) (e : Ending) (w' : World) : Prop := e = .returned v ∧ RgS w' p g room xs ∧ Fr [p, g] w w'

theorem ringPutS_math {first room : Nat} {cs xs : List ByteArray} {x : ByteArray} (hc : cs.length = room) (hf : first < room) (hl : xs.length < room) (h : ∀ i y, xs[i]? = some y → cs[(first + i) % room]? = some y) :
    ∀ i y, (xs ++ [x])[i]? = some y → (cs.set ((first + xs.length) % room) x)[(first + i) % room]? = some y := fun i y hy => by
  rcases Nat.lt_trichotomy i xs.length with hi | hi | hi
  · rw [List.getElem?_append_left hi] at hy
    rw [List.getElem?_set_ne (Ne.symm (mod_ne hi (by omega)))]
    exact h i y hy
  · subst hi
    rw [List.getElem?_append_right (Nat.le_refl _), Nat.sub_self] at hy
    rw [List.getElem?_set_self (by rw [hc]; exact Nat.mod_lt _ (by omega))]
    exact hy
  · rw [List.getElem?_eq_none (by simp; omega)] at hy
    cases hy

set_option maxHeartbeats 800000 in
theorem putS_calls (p g room : Nat) (xs : List ByteArray) (x : ByteArray) (w : World) (h : RgS w p g room xs) :
    Calls Try.prog 39 #[.pointer (some ⟨p, 0, none⟩), .string x] w (RgEndsS w p g room (.bool (decide (xs.length < room))) (putS xs room x)) := by
  have hne := h.ne
  have hle := h.le
  have hmost := h.most
  obtain ⟨first, cs, hf, hb, hg, hc, hx⟩ := h.body
  have c0 := hb.cell 0
  have c1 := hb.cell 1
  have c2 := hb.cell 2
  simp only [List.getElem?_cons_zero, List.getElem?_cons_succ] at c0 c1 c2
  by_cases hl : xs.length < room
  · have HP := Lib.hid (show putS xs room x = xs ++ [x] from if_pos hl)
    have HX := Lib.hid (ringPutS_math (x := x) hc hf hl hx)
    have hj : (first + xs.length) % room < room := Nat.mod_lt _ (by omega)
    have HC := Lib.hid (fun W (hW : Blk W p 147 [.slice (some ⟨g, 0, none⟩) room room, .int .i64 (first : Int), .int .i64 (xs.length : Int)]) => cellS_calls p g room first xs.length (xs.length : Int) W hW hf hmost (by omega))
    have gj := hg.cell ((first + xs.length) % room)
    have fj := hg.frozen ((first + xs.length) % room)
    have f2 := hb.frozen 2
    rw [List.getElem?_map, List.getElem?_eq_getElem (by rw [hc]; exact hj), Option.map_some] at gj
    generalize cs[(first + xs.length) % room]'(by rw [hc]; exact hj) = old at gj
    generalize (first + xs.length) % room = j at hj gj fj HX HC
    have hd : ((xs.length : Int) == (room : Int)) = false := beq_eq_false_iff_ne.2 (by omega)
    have i0 : (0 : Int) ≤ (j : Int) := Int.natCast_nonneg _
    have i1 : (j : Int) < (room : Int) := by omega
    have HB := Lib.hid hb
    have HG := Lib.hid hg
    clear hx
    go_enter Try.func39, Try.ntmps39
    go_wp2_with fail
    go_quiet (fail)
    go_wp2_with fail
    go_region_held3 (fun w' => w'.cell? ⟨p, 0, none⟩ = some (.slice (some ⟨g, 0, none⟩) room room) ∧ w'.cell? ⟨p, 2, none⟩ = some (.int .i64 (xs.length : Int))) (first | (exact ⟨keep_set1 c0 hne, keep_set1 c2 hne⟩) | go_keep) (first | (go_at_call 111; refine (HC.out _ (by exact HB.out)).mono ?_; rintro e w' ⟨rfl, q, rfl⟩))
    have hb1 : Blk (w.drewN (nq + 1 + q)) p 147 [.slice (some ⟨g, 0, none⟩) room room, .int .i64 (first : Int), .int .i64 (xs.length : Int)] := HB.out
    have hg1 : Blk (w.drewN (nq + 1 + q)) g 9 (cs.map Value.string) := HG.out
    have hf1 : Fr [p, g] w (w.drewN (nq + 1 + q)) := (Fr.refl _ _).drewN _
    generalize w.drewN (nq + 1 + q) = w1 at hb1 hg1 hf1 ⊢
    have hb2 := hb1.far (p := ⟨g, j, none⟩) hne (.string x)
    have hg2 : Blk (w1.setCell ⟨g, j, none⟩ (.string x)) g 9 ((cs.set j x).map Value.string) := by rw [List.map_set]; exact hg1.set_ j (.string x)
    have hf2 := hf1.set (p := g) (o := j) (by simp) (.string x)
    generalize w1.setCell ⟨g, j, none⟩ (.string x) = w2 at hb2 hg2 hf2 ⊢
    have e0 := hb2.cell 0
    have e2 := hb2.cell 2
    have ef2 := hb2.frozen 2
    simp only [List.getElem?_cons_zero, List.getElem?_cons_succ] at e0 e2
    clear c0 c1 c2 f2 gj fj hb1 hg1 hf1 HC
    have hb3 := hb2.set_ 2 (.int .i64 ((xs.length + 1 : Nat) : Int))
    have hg3 := hg2.far (p := ⟨p, 2, none⟩) (Ne.symm hne) (.int .i64 ((xs.length + 1 : Nat) : Int))
    have hf3 := hf2.set (p := p) (o := 2) (by simp) (.int .i64 ((xs.length + 1 : Nat) : Int))
    simp only [List.set_cons_zero, List.set_cons_succ] at hb3
    go_wp2_with fail
    go_ret
    have hd2 : decide (xs.length < room) = true := decide_eq_true hl
    rw [HP.out, hd2]
    exact ⟨rfl, ⟨⟨first, cs.set j x, hf, by rw [List.length_append]; exact hb3, hg3, by rw [List.length_set]; exact hc, HX.out⟩, by rw [List.length_append]; exact hl, hmost⟩, hf3⟩
  · have HP := Lib.hid (show putS xs room x = xs from if_neg hl)
    have hd : ((xs.length : Int) == (room : Int)) = true := beq_iff_eq.2 (by omega)
    have h0 := Lib.hid h
    clear hx hb hg h
    go_enter Try.func39, Try.ntmps39
    go_wp2_with fail
    go_quiet (fail)
    go_wp2_with fail
    go_ret
    have hd2 : decide (xs.length < room) = false := decide_eq_false hl
    rw [HP.out, hd2]
    exact ⟨rfl, h0.out.drewN _, (Fr.refl _ _).drewN _⟩

theorem lenS_calls (p g room : Nat) (xs : List ByteArray) (w : World) (h : RgS w p g room xs) :
    Calls Try.prog 50 #[.pointer (some ⟨p, 0, none⟩)] w fun e w' => e = .returned (.int .i64 (xs.length : Int)) ∧ w = w' := by
  obtain ⟨first, cs, hf, hb, _⟩ := h.body
  have c2 := hb.cell 2
  simp only [List.getElem?_cons_zero, List.getElem?_cons_succ] at c2
  go_enter Try.func50, Try.ntmps50
  go_wp2_with fail
  go_ret
  exact ⟨rfl, rfl⟩

/-- At, on the list -/
def atS (xs : List ByteArray) (i : Int) : ByteArray := if 0 ≤ i ∧ i < (xs.length : Int) then xs.getD i.toNat (⟨#[]⟩ : ByteArray) else (⟨#[]⟩ : ByteArray)
def inS (xs : List ByteArray) (i : Int) : Bool := decide (0 ≤ i ∧ i < (xs.length : Int))

set_option maxHeartbeats 800000 in
theorem atS_calls (p g room : Nat) (xs : List ByteArray) (i : Int) (w : World) (h : RgS w p g room xs) :
    Calls Try.prog 113 #[.pointer (some ⟨p, 0, none⟩), .int .i64 i] w (Quiet2 w (.tuple #[Value.string (atS xs i), .bool (inS xs i)])) := by
  have hle := h.le
  have hmost := h.most
  obtain ⟨first, cs, hf, hb, hg, hc, hx⟩ := h.body
  have c0 := hb.cell 0
  have c1 := hb.cell 1
  have c2 := hb.cell 2
  simp only [List.getElem?_cons_zero, List.getElem?_cons_succ] at c0 c1 c2
  by_cases hi : 0 ≤ i ∧ i < (xs.length : Int)
  · obtain ⟨k, rfl⟩ := Int.eq_ofNat_of_zero_le hi.1
    have hk : k < xs.length := by have := hi.2; omega
    have HA := Lib.hid (show atS xs (k : Int) = xs[k] by unfold atS; rw [if_pos hi]; simp [List.getD, hk])
    have HI := Lib.hid (show inS xs (k : Int) = true from decide_eq_true hi)
    have hcx := hx k _ (List.getElem?_eq_getElem hk)
    have hj : (first + k) % room < room := Nat.mod_lt _ (by omega)
    have HC := Lib.hid (fun W (hW : Blk W p 147 [.slice (some ⟨g, 0, none⟩) room room, .int .i64 (first : Int), .int .i64 (xs.length : Int)]) => cellS_calls p g room first k (xs.length : Int) W hW hf hmost (by omega))
    have gj := hg.cell ((first + k) % room)
    rw [List.getElem?_map, hcx, Option.map_some] at gj
    generalize xs[k] = y at gj HA hcx
    generalize (first + k) % room = j at hj gj HC
    have hd1 : decide ((k : Int) < 0) = false := decide_eq_false (by omega)
    have hd2 : decide ((xs.length : Int) ≤ (k : Int)) = false := decide_eq_false (by omega)
    have i0 : (0 : Int) ≤ (j : Int) := Int.natCast_nonneg _
    have i1 : (j : Int) < (room : Int) := by omega
    have HB := Lib.hid hb
    clear hx hcx hi
    go_enter Try.func113, Try.ntmps113
    go_wp2_with fail
    go_quiet ((go_at_call 111; exact Calls.quiet_of (HC.out _ (by exact HB.out))))
    go_wp2_with fail
    go_ret2
    rw [HA.out, HI.out]
    exact ⟨rfl, _, rfl⟩
  · have HA := Lib.hid (show atS xs i = (⟨#[]⟩ : ByteArray) from if_neg hi)
    have HI := Lib.hid (show inS xs i = false from decide_eq_false hi)
    by_cases h0 : i < 0
    · have hd1 : decide (i < 0) = true := decide_eq_true h0
      clear hx
      go_enter Try.func113, Try.ntmps113
      go_wp2_with fail
      go_ret2
      rw [HA.out, HI.out]
      exact ⟨rfl, 0, rfl⟩
    · have hd1 : decide (i < 0) = false := decide_eq_false h0
      have hd2 : decide ((xs.length : Int) ≤ i) = true := decide_eq_true (by omega)
      clear hx
      go_enter Try.func113, Try.ntmps113
      go_wp2_with fail
      go_ret2
      rw [HA.out, HI.out]
      exact ⟨rfl, 0, rfl⟩

/-- Drop, on the list: how many -/
def dropS (xs : List ByteArray) (n : Int) : Nat := (max 0 (min n (xs.length : Int))).toNat
theorem dropS_le (xs : List ByteArray) (n : Int) : dropS xs n ≤ xs.length := by unfold dropS; omega

set_option maxHeartbeats 1600000 in
theorem dropS_calls (p g room : Nat) (xs : List ByteArray) (n : Int) (w : World) (h : RgS w p g room xs) (hn : -9223372036854775808 ≤ n ∧ n ≤ 9223372036854775807) :
    Calls Try.prog 45 #[.pointer (some ⟨p, 0, none⟩), .int .i64 n] w (RgEndsS w p g room (.int .i64 (dropS xs n : Int)) (xs.drop (dropS xs n))) := by
  have hne := h.ne
  have hle := h.le
  have hmost := h.most
  obtain ⟨first, cs, hf, hb, hg, hc, hx⟩ := h.body
  have hm := dropS_le xs n
  have c0 := hb.cell 0
  have c1 := hb.cell 1
  have c2 := hb.cell 2
  simp only [List.getElem?_cons_zero, List.getElem?_cons_succ] at c0 c1 c2
  go_enter Try.func45, Try.ntmps45
  go_upto_region 1 with fail
  go_cut [1] (fun s1 wx => s1 = .int .i64 (dropS xs n : Int) ∧ wx = w)
  case first =>
    go_wp2_with fail
    all_goals
      go_meet
      refine ⟨congrArg (Value.int .i64) ?_, rfl⟩
      unfold dropS
      omega
  case rest =>
    obtain ⟨rfl, hw⟩ := hcut
    subst hw
    generalize hm0 : dropS xs n = m at hm
    have HM := Lib.hid hm0
    clear hm0
    go_wp2_with fail
    have HB := Lib.hid hb
    have HG : Hid (∃ cs' : List ByteArray, cs'.length = room ∧ Blk wc g 9 (cs'.map Value.string) ∧ ∀ i x, 0 ≤ i → xs[i]? = some x → cs'[(first + i) % room]? = some x) := show ∃ _, _ from ⟨cs, hc, hg, fun i x _ => hx i x⟩
    have HF0 : Fr [p, g] wc wc := Fr.refl _ _
    clear hb hg hx hc c0 c1 c2
    go_loopw [5, 6, 15] (fun _ _ k wr => ∃ j : Nat, j ≤ m ∧ k = .int .i64 j ∧ Hid (Blk wr p 147 [.slice (some ⟨g, 0, none⟩) room room, .int .i64 (first : Int), .int .i64 (xs.length : Int)]) ∧ Hid (∃ cs' : List ByteArray, cs'.length = room ∧ Blk wr g 9 (cs'.map Value.string) ∧ ∀ i x, j ≤ i → xs[i]? = some x → cs'[(first + i) % room]? = some x) ∧ Fr [p, g] wc wr) (fun _ _ k _ => m - (intOf k).toNat)
    case atStart => exact ⟨0, Nat.zero_le _, rfl, HB, HG, HF0⟩
    case round =>
      clear HB HG HF0
      obtain ⟨j, hj, rfl, HB, HG, HF⟩ := hrel
      by_cases hlt : j < m
      · obtain ⟨cs, hc, hg, hx⟩ := HG.out
        have HX : Hid (∀ i x, j + 1 ≤ i → xs[i]? = some x → (cs.set ((first + j) % room) (⟨#[]⟩ : ByteArray))[(first + i) % room]? = some x) := show ∀ _, _ from fun i x hi hix => by
          have hil : i < xs.length := (List.getElem?_eq_some_iff.1 hix).1
          rw [List.getElem?_set_ne (mod_ne (show j < i by omega) (by omega))]
          exact hx i x (by omega) hix
        have hjr : (first + j) % room < room := Nat.mod_lt _ (by omega)
        have HC := Lib.hid (fun W (hW : Blk W p 147 [.slice (some ⟨g, 0, none⟩) room room, .int .i64 (first : Int), .int .i64 (xs.length : Int)]) => cellS_calls p g room first j (xs.length : Int) W hW hf hmost (by omega))
        have c0 := HB.out.cell 0
        simp only [List.getElem?_cons_zero] at c0
        have gj := hg.cell ((first + j) % room)
        have fj := hg.frozen ((first + j) % room)
        rw [List.getElem?_map, List.getElem?_eq_getElem (by rw [hc]; exact hjr), Option.map_some] at gj
        generalize cs[(first + j) % room]'(by rw [hc]; exact hjr) = old at gj
        generalize (first + j) % room = r at hjr gj fj HX HC
        have i0 : (0 : Int) ≤ (r : Int) := Int.natCast_nonneg _
        have i1 : (r : Int) < (room : Int) := by omega
        have HG1 := Lib.hid hg
        have HCL := Lib.hid hc
        clear hx hc hg HG
        go_wp2_with fail
        go_region_held3 (fun w' => w'.cell? ⟨p, 0, none⟩ = some (.slice (some ⟨g, 0, none⟩) room room)) (first | (exact keep_set1 c0 hne) | go_keep) (first | (go_at_call 111; refine (HC.out _ (by exact HB.out)).mono ?_; rintro e w' ⟨rfl, q, rfl⟩))
        have hb1 : Blk (wr.drewN (1 + q)) p 147 [.slice (some ⟨g, 0, none⟩) room room, .int .i64 (first : Int), .int .i64 (xs.length : Int)] := HB.out
        have hg1 : Blk (wr.drewN (1 + q)) g 9 (cs.map Value.string) := HG1.out
        have hf1 : Fr [p, g] wc (wr.drewN (1 + q)) := HF.drewN _
        clear HB HG1 HF c0 gj fj HC
        have hb2 := hb1.far (p := ⟨g, r, none⟩) hne (Value.string ⟨#[]⟩)
        have hg2 : Blk ((wr.drewN (1 + q)).setCell ⟨g, r, none⟩ (Value.string ⟨#[]⟩)) g 9 ((cs.set r (⟨#[]⟩ : ByteArray)).map Value.string) := by rw [List.map_set]; exact hg1.set_ r (Value.string ⟨#[]⟩)
        have hf2 := hf1.set (p := g) (o := r) (by simp) (Value.string ⟨#[]⟩)
        have HG2 : Hid (∃ cs' : List ByteArray, cs'.length = room ∧ Blk ((wr.drewN (1 + q)).setCell ⟨g, r, none⟩ (Value.string ⟨#[]⟩)) g 9 (cs'.map Value.string) ∧ ∀ i x, j + 1 ≤ i → xs[i]? = some x → cs'[(first + i) % room]? = some x) := show ∃ _, _ from ⟨cs.set r (⟨#[]⟩ : ByteArray), by rw [List.length_set]; exact HCL.out, hg2, HX.out⟩
        have HB2 := Lib.hid hb2
        clear hb1 hg1 hf1 hb2 hg2 HX
        generalize (wr.drewN (1 + q)).setCell ⟨g, r, none⟩ (Value.string ⟨#[]⟩) = w2 at HB2 HG2 hf2 ⊢
        go_wp2_with fail
        go_roundw
        case rel => exact ⟨j + 1, by omega, by go_num, HB2, HG2, hf2⟩
        case measure => simp [intOf]; omega
      · obtain rfl : j = m := by omega
        have HC := Lib.hid (cellS_calls p g room first j (xs.length : Int) wr HB.out hf hmost (by omega))
        have hjr : (first + j) % room < room := Nat.mod_lt _ (by omega)
        generalize hr : (first + j) % room = r at hjr HC
        have HR := Lib.hid hr
        clear hr
        have f1 := HB.out.frozen 1
        have f2 := HB.out.frozen 2
        have c1 := HB.out.cell 1
        have c2 := HB.out.cell 2
        simp only [List.getElem?_cons_zero, List.getElem?_cons_succ] at c1 c2
        go_wp2_with fail
        refine HC.out.mono ?_
        rintro e w' ⟨rfl, q, rfl⟩
        have HXL := Lib.hid (show ((xs.drop j).length : Int) = (xs.length : Int) - (j : Int) by rw [List.length_drop]; omega)
        have hb3 : Blk (((wr.drewN q).setCell ⟨p, 1, none⟩ (.int .i64 (r : Int))).setCell ⟨p, 2, none⟩ (.int .i64 ((xs.length : Int) - (j : Int)))) p 147 [.slice (some ⟨g, 0, none⟩) room room, .int .i64 (r : Int), .int .i64 ((xs.length : Int) - (j : Int))] := ((HB.out.drewN q).set_ 1 (.int .i64 (r : Int))).set_ 2 (.int .i64 ((xs.length : Int) - (j : Int)))
        have hf3 := ((HF.drewN q).set (p := p) (o := 1) (by simp) (.int .i64 (r : Int))).set (p := p) (o := 2) (by simp) (.int .i64 ((xs.length : Int) - (j : Int)))
        have HRg : Hid (RgS (((wr.drewN q).setCell ⟨p, 1, none⟩ (.int .i64 (r : Int))).setCell ⟨p, 2, none⟩ (.int .i64 ((xs.length : Int) - (j : Int)))) p g room (xs.drop j)) := by
          obtain ⟨cs, hc, hg, hx⟩ := HG.out
          have hg3 := ((hg.drewN q).far (p := ⟨p, 1, none⟩) (Ne.symm hne) (.int .i64 (r : Int))).far (p := ⟨p, 2, none⟩) (Ne.symm hne) (.int .i64 ((xs.length : Int) - (j : Int)))
          show RgS _ _ _ _ _
          refine ⟨⟨r, cs, hjr, by rw [HXL.out]; exact hb3, hg3, hc, fun i x hi => ?_⟩, by rw [List.length_drop]; omega, hmost⟩
          rw [List.getElem?_drop] at hi
          have h1 := hx (j + i) x (by omega) hi
          rw [← HR.out, Nat.mod_add_mod, Nat.add_assoc]
          exact h1
        clear HB HG HF hb3 HC HXL
        go_wp2_with fail
        go_ret
        rw [HM.out]
        exact ⟨rfl, HRg.out, hf3⟩

set_option maxHeartbeats 800000 in
theorem takeS_calls (p g room : Nat) (xs : List ByteArray) (w : World) (h : RgS w p g room xs) :
    Calls Try.prog 42 #[.pointer (some ⟨p, 0, none⟩)] w (RgEndsS w p g room (.tuple #[Value.string (atS xs 0), .bool (inS xs 0)]) (xs.drop 1)) := by
  have H0 := Lib.hid (atS_calls p g room xs 0 w h)
  have hd : xs.drop (dropS xs 1) = xs.drop 1 := by
    unfold dropS
    cases xs with
    | nil => rfl
    | cons x r => rw [show (max 0 (min 1 (((x :: r).length : Nat) : Int))).toNat = 1 by simp only [List.length_cons]; omega]
  have H1 := Lib.hid (fun q => dropS_calls p g room xs 1 (w.drewN q) (h.drewN q) (by decide))
  rw [hd] at H1
  have hk : ∀ x, Value.string x = .string x := fun _ => rfl
  rw [hk] at H0 ⊢
  generalize atS xs 0 = y at H0
  generalize inS xs 0 = b at H0
  clear hk hd h
  go_enter Try.func42, Try.ntmps42
  go_wp2_with fail
  refine H0.out.mono ?_
  unfold Quiet2
  rintro e w1 ⟨rfl, q, rfl⟩
  go_wp2_with fail
  refine (H1.out q).mono ?_
  unfold RgEndsS
  rintro e w2 ⟨rfl, h2, f2⟩
  go_wp2_with fail
  go_ret2
  exact ⟨rfl, h2, f2.undrew⟩

theorem infoRS : (Try.prog.info? 9).map (fun i => (i.zero, i.size, i.bytes)) = some (some (Value.string ⟨#[]⟩), 1, 16) := by kernel_rfl
theorem madeS (n : Nat) : (madeCells (Value.string ⟨#[]⟩).cells (n * 1)).toList = (List.replicate n (⟨#[]⟩ : ByteArray)).map Value.string := by
  apply List.ext_getElem
  · simp [madeCells]
  · intro i h1 h2; simp [madeCells, Value.cells, Nat.mod_one]
theorem mkS (n : Nat) (hn : n ≤ 4096) (u : World) : (Instr.makeSlice 88 (.int .i64 (n : Int)) (.int .i64 (n : Int))).run Try.prog u =
      .ok (.slice (some ⟨u.heap.size, 0, none⟩) n n) (u.alloc (.cells (madeCells (Value.string ⟨#[]⟩).cells (n * 1)) 9)) := by
  obtain ⟨i0, hi, hz0, hz1, hz2⟩ := info_parts infoRS
  have h := run_make (P := Try.prog) u 88 9 i0 (Value.string ⟨#[]⟩) Try.underlying88 hi hz0 .i64 .i64 (n : Int) (n : Int) (by omega) (Int.le_refl _) (by rw [hz2]; omega) (by omega)
  rw [Int.toNat_natCast, hz1] at h
  exact h

def NewRgS (w : World) (room : Nat) (e : Ending) (w' : World) : Prop := ∃ p g, e = .returned (.tuple #[.pointer (some ⟨p, 0, none⟩), .int .i64 0]) ∧ RgS w' p g room [] ∧ w.heap.size ≤ p ∧ w.heap.size ≤ g ∧ Below w.heap.size w w'

set_option maxHeartbeats 800000 in
theorem newS_ok (room : Nat) (w : World) (h1 : 1 ≤ room) (h2 : room ≤ 4096) : Calls Try.prog 36 #[.int .i64 (room : Int)] w (NewRgS w room) := by
  have hmk := mkS room h2
  have hml := madeS room
  generalize madeCells (Value.string ⟨#[]⟩).cells (room * 1) = M at hmk hml
  have HML := Lib.hid hml
  clear hml
  have hd1 : decide ((room : Int) < 1) = false := decide_eq_false (by omega)
  have hd2 : decide ((4096 : Int) < (room : Int)) = false := decide_eq_false (by omega)
  go_enter Try.func36, Try.ntmps36
  go_wp2_with fail
  go_ret2
  refine ⟨w.heap.size + 1, w.heap.size, rfl, ⟨⟨0, List.replicate room (⟨#[]⟩ : ByteArray), by omega, ?_, ?_, by simp, fun i x hi => by simp at hi⟩, Nat.zero_le _, h2⟩, by omega, Nat.le_refl _, ((Below.refl _ _).alloc (Nat.le_refl _) _).alloc (by simp) _⟩
  · have h := Blk.new (w.alloc (.cells M 9)) 147 #[.slice (some ⟨w.heap.size, 0, none⟩) room room, .int .i64 0, .int .i64 0]
    simpa using h
  · have h := (Blk.new w 9 M).alloc (.cells #[.slice (some ⟨w.heap.size, 0, none⟩) room room, .int .i64 0, .int .i64 0] 147)
    rw [HML.out] at h
    exact h
theorem newS_bad (room : Int) (w : World) (h : room < 1 ∨ 4096 < room) : Calls Try.prog 36 #[.int .i64 room] w fun e w' => e = .returned (.tuple #[.pointer none, .int .i64 1]) ∧ w = w' := by
  by_cases h1 : room < 1
  · clear h
    have hd1 : decide (room < 1) = true := decide_eq_true h1
    go_enter Try.func36, Try.ntmps36
    go_wp2_with fail
    go_ret2
    exact ⟨rfl, rfl⟩
  · have hd1 : decide (room < 1) = false := decide_eq_false h1
    have hd2 : decide (4096 < room) = true := decide_eq_true (by omega)
    clear h
    go_enter Try.func36, Try.ntmps36
    go_wp2_with fail
    go_ret2
    exact ⟨rfl, rfl⟩

end Go.Proofs.Ytepmnhlfjidhjaa
