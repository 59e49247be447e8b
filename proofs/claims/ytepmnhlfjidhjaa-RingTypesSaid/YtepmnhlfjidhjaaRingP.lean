/-
  The contracts of ring.Ring at pairs.
-/
import Derived.Test.YtepmnhlfjidhjaaFr
import Derived.Test.YtepmnhlfjidhjaaRingI2
import Derived.Test.YtepmnhlfjidhjaaI64
import Derived.Deep.QuietTactic
import Derived.BigQuiet
import Derived.Deep.RegionHeld3
import Derived.IntWalk
import Derived.Laws.MakeOwn
import Derived.Deep.DeepCutAuto
import Derived.Laws.ResultCell
namespace Go.Proofs.Ytepmnhlfjidhjaa
open Go.RowKit Go.Mem

/-- pairs, cell by cell -/
def flatQ (l : List (Int × ByteArray)) : List Value := l.flatMap fun g => [.int .i64 g.1, .string g.2]
theorem flatQ_length (l : List (Int × ByteArray)) : (flatQ l).length = l.length * 2 := by
  induction l with
  | nil => rfl
  | cons g l ih => simp [flatQ] at ih ⊢; omega
theorem flatQ_cons (g : Int × ByteArray) (l : List (Int × ByteArray)) : flatQ (g :: l) = .int .i64 g.1 :: .string g.2 :: flatQ l := rfl
theorem flatQ_at (l : List (Int × ByteArray)) (k : Nat) (g : Int × ByteArray) (h : l[k]? = some g) : (flatQ l)[k * 2]? = some (.int .i64 g.1) ∧ (flatQ l)[k * 2 + 1]? = some (.string g.2) := by
  induction l generalizing k with
  | nil => simp at h
  | cons f l ih =>
    cases k with
    | zero => simp at h; subst h; exact ⟨rfl, rfl⟩
    | succ k =>
      have := ih k (by simpa using h)
      rw [show (k + 1) * 2 = k * 2 + 1 + 1 by omega]
      exact this
theorem flatQ_set (l : List (Int × ByteArray)) (k : Nat) (g : Int × ByteArray) : ((flatQ l).set (k * 2) (.int .i64 g.1)).set (k * 2 + 1) (.string g.2) = flatQ (l.set k g) := by
  induction l generalizing k with
  | nil => simp [flatQ]
  | cons f l ih =>
    cases k with
    | zero => rfl
    | succ k =>
      rw [List.set_cons_succ, flatQ_cons, flatQ_cons, show (k + 1) * 2 = k * 2 + 1 + 1 by omega, List.set_cons_succ, List.set_cons_succ, List.set_cons_succ, List.set_cons_succ, ih]
def VQ (r : Int × ByteArray) : Value := .agg #[.int .i64 r.1, .string r.2]

/-- a ring of room pairs in the blocks p and g: what it holds -/
structure RgP (w : World) (p g room : Nat) (xs : List (Int × ByteArray)) : Prop where
  body : ∃ (first : Nat) (cs : List (Int × ByteArray)), first < room ∧ Blk w p 150 [.slice (some ⟨g, 0, none⟩) room room, .int .i64 (first : Int), .int .i64 (xs.length : Int)] ∧ Blk w g 68 (flatQ cs) ∧ cs.length = room ∧ ∀ i x, xs[i]? = some x → cs[(first + i) % room]? = some x
  le : xs.length ≤ room
  most : room ≤ 4096
theorem RgP.ne {w : World} {p g room : Nat} {xs : List (Int × ByteArray)} (h : RgP w p g room xs) : p ≠ g := by
  obtain ⟨_, _, _, hb, hg, _⟩ := h.body
  exact hb.ne_ hg (by decide)
theorem RgP.lt {w : World} {p g room : Nat} {xs : List (Int × ByteArray)} (h : RgP w p g room xs) : p < w.heap.size ∧ g < w.heap.size := by
  obtain ⟨_, _, _, hb, hg, _⟩ := h.body
  exact ⟨hb.lt, hg.lt⟩
theorem RgP.fr {w w' : World} {p g room : Nat} {xs : List (Int × ByteArray)} {bs : List Nat} (h : RgP w p g room xs) (k : Fr bs w w') (hp : p ∉ bs) (hg : g ∉ bs) : RgP w' p g room xs := by
  obtain ⟨f, cs, h1, h2, h3, h4⟩ := h.body
  exact ⟨⟨f, cs, h1, h2.fr k hp, h3.fr k hg, h4⟩, h.le, h.most⟩
theorem RgP.below {w w' : World} {p g room : Nat} {xs : List (Int × ByteArray)} (h : RgP w p g room xs) (k : Below w.heap.size w w') : RgP w' p g room xs := h.fr (bs := []) (Fr.of_below k) List.not_mem_nil List.not_mem_nil
theorem RgP.drewN {w : World} {p g room : Nat} {xs : List (Int × ByteArray)} (h : RgP w p g room xs) (n : Nat) : RgP (w.drewN n) p g room xs := h.fr (bs := []) ((Fr.refl _ _).drewN n) List.not_mem_nil List.not_mem_nil
theorem RgP.pos {w : World} {p g room : Nat} {xs : List (Int × ByteArray)} (h : RgP w p g room xs) : 1 ≤ room := by
  obtain ⟨_, _, h1, _⟩ := h.body; omega

theorem cellP_calls (p g room first i : Nat) (n : Int) (w : World) (hb : Blk w p 150 [.slice (some ⟨g, 0, none⟩) room room, .int .i64 (first : Int), .int .i64 n]) (hf : first < room) (hr : room ≤ 4096) (hi : i ≤ 4096) :
    Calls Try.prog 112 #[.pointer (some ⟨p, 0, none⟩), .int .i64 (i : Int)] w fun e w' => e = .returned (.int .i64 (((first + i) % room : Nat) : Int)) ∧ ∃ q, w' = w.drewN q := by
  have c0 := hb.cell 0
  have c1 := hb.cell 1
  simp only [List.getElem?_cons_zero, List.getElem?_cons_succ] at c0 c1
  have hw : IntKind.i64.wrap ((first : Int) + (i : Int)) = (first : Int) + (i : Int) := IntWalk.i64_in _ (by omega)
  have hne : ((room : Int) == 0) = false := beq_eq_false_iff_ne.2 (by omega)
  have HM := Lib.hid (show ((first : Int) + (i : Int)).tmod (room : Int) = (((first + i) % room : Nat) : Int) by rw [Int.tmod_eq_emod_of_nonneg (by omega)]; simp)
  go_enter Try.func112, Try.ntmps112
  go_wp2_with fail
  go_quiet (fail)
  go_wp2_with fail
  go_ret
  exact ⟨congrArg (fun z => Ending.returned (.int .i64 z)) (by simp), nq, rfl⟩

theorem lenP_calls (p g room : Nat) (xs : List (Int × ByteArray)) (w : World) (h : RgP w p g room xs) :
    Calls Try.prog 51 #[.pointer (some ⟨p, 0, none⟩)] w fun e w' => e = .returned (.int .i64 (xs.length : Int)) ∧ w = w' := by
  obtain ⟨first, cs, hf, hb, _⟩ := h.body
  have c2 := hb.cell 2
  simp only [List.getElem?_cons_zero, List.getElem?_cons_succ] at c2
  go_enter Try.func51, Try.ntmps51
  go_wp2_with fail
  go_ret
  exact ⟨rfl, rfl⟩


/-- At, on the list -/
def atP (xs : List (Int × ByteArray)) (i : Int) : Int × ByteArray := if 0 ≤ i ∧ i < (xs.length : Int) then xs.getD i.toNat (0, ⟨#[]⟩) else (0, ⟨#[]⟩)
def AtEndsP (w : World) (xs : List (Int × ByteArray)) (i : Int) (e : Ending) (w' : World) : Prop := e = .returned (.tuple #[VQ (atP xs i), .bool (decide (0 ≤ i ∧ i < (xs.length : Int)))]) ∧ Below w.heap.size w w'
set_option maxRecDepth 100000 in
set_option maxHeartbeats 1600000 in
theorem atP_calls (p g room : Nat) (xs : List (Int × ByteArray)) (i : Int) (w : World) (h : RgP w p g room xs) :
    Calls Try.prog 48 #[.pointer (some ⟨p, 0, none⟩), .int .i64 i] w (AtEndsP w xs i) := by
  have hle := h.le
  have hmost := h.most
  have hal := (Below.refl w.heap.size w).alloc (Nat.le_refl _) (.cells #[.int .i64 0, .string ⟨#[]⟩] 68)
  have hbx := Blk.new w 68 #[.int .i64 0, .string ⟨#[]⟩]
  have h1 := h.below hal
  have hqp : w.heap.size ≠ p := Ne.symm (Nat.ne_of_lt h.lt.1)
  have hqg : w.heap.size ≠ g := Ne.symm (Nat.ne_of_lt h.lt.2)
  obtain ⟨first, cs, hf, hb, hg, hc, hx⟩ := h1.body
  clear h1 h
  by_cases hi : 0 ≤ i ∧ i < (xs.length : Int)
  · obtain ⟨k, rfl⟩ := Int.eq_ofNat_of_zero_le hi.1
    have hk : k < xs.length := by have := hi.2; omega
    have HA := Lib.hid (show atP xs (k : Int) = xs[k] by unfold atP; rw [if_pos hi]; simp [List.getD, hk])
    have HI := Lib.hid (show decide (0 ≤ (k : Int) ∧ (k : Int) < (xs.length : Int)) = true from decide_eq_true hi)
    have hcx := hx k _ (List.getElem?_eq_getElem hk)
    have hj : (first + k) % room < room := Nat.mod_lt _ (by omega)
    have HC := Lib.hid (fun W (hW : Blk W p 150 [.slice (some ⟨g, 0, none⟩) room room, .int .i64 (first : Int), .int .i64 (xs.length : Int)]) => cellP_calls p g room first k (xs.length : Int) W hW hf hmost (by omega))
    have gj := hg.cell ((first + k) % room * 2)
    have gj2 := hg.cell ((first + k) % room * 2 + 1)
    rw [(flatQ_at cs _ _ hcx).1] at gj
    rw [(flatQ_at cs _ _ hcx).2] at gj2
    generalize xs[k] = y at gj gj2 HA hcx
    obtain ⟨y1, y2⟩ := y
    simp only at gj gj2
    generalize (first + k) % room = j at hj gj gj2 HC
    have hd1 : decide ((k : Int) < 0) = false := decide_eq_false (by omega)
    have hd2 : decide ((xs.length : Int) ≤ (k : Int)) = false := decide_eq_false (by omega)
    have i0 : (0 : Int) ≤ (j : Int) := Int.natCast_nonneg _
    have i1 : (j : Int) < (room : Int) := by omega
    clear hx hcx hi
    unfold AtEndsP
    go_enter Try.func48, Try.ntmps48
    go_upto_region 1 with fail
    have HB := Lib.hid hal
    clear hal
    generalize w.alloc (.cells #[.int .i64 0, .string ⟨#[]⟩] 68) = w1 at *
    have c0 := hb.cell 0
    have c1 := hb.cell 1
    have c2 := hb.cell 2
    have b0 := hbx.cell 0
    have b1 := hbx.cell 1
    have f0 := hbx.frozen 0
    have f1 := hbx.frozen 1
    simp only [List.getElem?_cons_zero, List.getElem?_cons_succ] at c0 c1 c2 b0 b1
    go_wp2_with fail
    go_region_held3 (fun w' => w'.cell? ⟨p, 0, none⟩ = some (.slice (some ⟨g, 0, none⟩) room room) ∧ w'.cell? ⟨g, j * 2, none⟩ = some (.int .i64 y1) ∧ w'.cell? ⟨g, j * 2 + 1, none⟩ = some (.string y2)) (first | (exact ⟨keep_set1 (keep_set1 c0 hqp) hqp, keep_set1 (keep_set1 gj hqg) hqg, keep_set1 (keep_set1 gj2 hqg) hqg⟩) | go_keep) (first | (go_at_call 112; refine (HC.out _ (by exact hb)).mono ?_; rintro e w' ⟨rfl, q, rfl⟩))
    have HBX := Lib.hid (((hbx.drewN (1 + q)).set_ 0 (.int .i64 y1)).set_ 1 (.string y2))
    have HFin : Hid (Below w.heap.size w (((w1.drewN (1 + q)).setCell ⟨w.heap.size, 0, none⟩ (.int .i64 y1)).setCell ⟨w.heap.size, 1, none⟩ (.string y2))) := (show Below _ _ _ from ((below_drewN HB.out _).setCell (Nat.le_refl _) _).setCell (Nat.le_refl _) _)
    generalize ((w1.drewN (1 + q)).setCell ⟨w.heap.size, 0, none⟩ (.int .i64 y1)).setCell ⟨w.heap.size, 1, none⟩ (.string y2) = w2 at *
    clear b0 b1 f0 f1 c0 c1 c2 gj gj2 HC hb hg hbx
    have b0 := HBX.out.cell 0
    have b1 := HBX.out.cell 1
    simp only [List.set_cons_zero, List.set_cons_succ, List.getElem?_cons_zero, List.getElem?_cons_succ] at b0 b1
    go_wp2_with fail
    (try simp only [Exit.inBlock, Exit.then])
    refine bodyPost_ret (v := .tuple #[VQ (y1, y2), .bool true]) ?_ rfl ⟨by rw [HA.out, HI.out], HFin.out⟩
    rw [results_cell_tmp rfl]
    unfold VQ
    go_simp
  · have HA := Lib.hid (show atP xs i = (0, ⟨#[]⟩) from if_neg hi)
    have HI := Lib.hid (show decide (0 ≤ i ∧ i < (xs.length : Int)) = false from decide_eq_false hi)
    clear hx
    unfold AtEndsP
    have HFin : Hid (Below w.heap.size w ((w.alloc (.cells #[.int .i64 0, .string ⟨#[]⟩] 68)).alloc (.cells #[.int .i64 0, .string ⟨#[]⟩] 68))) := (show Below _ _ _ from hal.alloc (by simp) _)
    have c2 := hb.cell 2
    simp only [List.getElem?_cons_zero, List.getElem?_cons_succ] at c2
    by_cases h0 : i < 0
    · have hd1 : decide (i < 0) = true := decide_eq_true h0
      clear hb hg hbx hal
      go_enter Try.func48, Try.ntmps48
      go_wp2_with fail
      (try simp only [Exit.inBlock, Exit.then])
      refine bodyPost_ret (v := .tuple #[VQ (0, ⟨#[]⟩), .bool false]) ?_ rfl ⟨by first | rw [HA.out, HI.out] | rw [HA.out], HFin.out⟩
      rw [results_cell_tmp rfl]
      unfold VQ
      go_simp
    · have hd1 : decide (i < 0) = false := decide_eq_false h0
      have hd2 : decide ((xs.length : Int) ≤ i) = true := decide_eq_true (by omega)
      have HI5 := Lib.hid (show decide (i < (xs.length : Int)) = false from decide_eq_false (by omega))
      clear hb hg hbx hal
      go_enter Try.func48, Try.ntmps48
      go_wp2_with fail
      (try simp only [Exit.inBlock, Exit.then])
      refine bodyPost_ret (v := .tuple #[VQ (0, ⟨#[]⟩), .bool false]) ?_ rfl ⟨by first | rw [HA.out, HI5.out] | rw [HA.out, HI.out], HFin.out⟩
      rw [results_cell_tmp rfl]
      unfold VQ
      go_simp

theorem infoRP : (Try.prog.info? 68).map (fun i => (i.zero, i.size, i.bytes)) = some (some (.agg #[.int .i64 0, Value.string ⟨#[]⟩]), 2, 24) := by kernel_rfl
theorem madeP (n : Nat) : (madeCells (Value.agg #[.int .i64 0, Value.string ⟨#[]⟩]).cells (n * 2)).toList = flatQ (List.replicate n (0, ⟨#[]⟩)) := by
  apply List.ext_getElem
  · simp [madeCells, flatQ_length]
  · intro i h1 h2
    have hi : i < n * 2 := by simpa [madeCells] using h1
    have hk : i / 2 < n := by omega
    have ha := flatQ_at (List.replicate n ((0 : Int), (⟨#[]⟩ : ByteArray))) (i / 2) (0, ⟨#[]⟩) (by rw [List.getElem?_replicate, if_pos hk])
    rcases Nat.mod_two_eq_zero_or_one i with h | h
    · have e : i / 2 * 2 = i := by omega
      rw [e, List.getElem?_eq_getElem h2] at ha
      rw [Option.some.inj ha.1]
      simp [madeCells, Value.cells, h]
    · have e : i / 2 * 2 + 1 = i := by omega
      rw [e, List.getElem?_eq_getElem h2] at ha
      rw [Option.some.inj ha.2]
      simp [madeCells, Value.cells, h]
theorem mkP (n : Nat) (hn : n ≤ 4096) (u : World) : (Instr.makeSlice 148 (.int .i64 (n : Int)) (.int .i64 (n : Int))).run Try.prog u =
      .ok (.slice (some ⟨u.heap.size, 0, none⟩) n n) (u.alloc (.cells (madeCells (Value.agg #[.int .i64 0, Value.string ⟨#[]⟩]).cells (n * 2)) 68)) := by
  obtain ⟨i0, hi, hz0, hz1, hz2⟩ := info_parts infoRP
  have h := run_make (P := Try.prog) u 148 68 i0 (.agg #[.int .i64 0, Value.string ⟨#[]⟩]) Try.underlying148 hi hz0 .i64 .i64 (n : Int) (n : Int) (by omega) (Int.le_refl _) (by rw [hz2]; omega) (by omega)
  rw [Int.toNat_natCast, hz1] at h
  exact h
def NewRgP (w : World) (room : Nat) (e : Ending) (w' : World) : Prop := ∃ p g, e = .returned (.tuple #[.pointer (some ⟨p, 0, none⟩), .int .i64 0]) ∧ RgP w' p g room [] ∧ w.heap.size ≤ p ∧ w.heap.size ≤ g ∧ Below w.heap.size w w'

set_option maxHeartbeats 800000 in
theorem newP_ok (room : Nat) (w : World) (h1 : 1 ≤ room) (h2 : room ≤ 4096) : Calls Try.prog 37 #[.int .i64 (room : Int)] w (NewRgP w room) := by
  have hmk := mkP room h2
  have hml := madeP room
  generalize madeCells (Value.agg #[.int .i64 0, Value.string ⟨#[]⟩]).cells (room * 2) = M at hmk hml
  have HML := Lib.hid hml
  clear hml
  have hd1 : decide ((room : Int) < 1) = false := decide_eq_false (by omega)
  have hd2 : decide ((4096 : Int) < (room : Int)) = false := decide_eq_false (by omega)
  go_enter Try.func37, Try.ntmps37
  go_wp2_with fail
  go_ret2
  refine ⟨w.heap.size + 1, w.heap.size, rfl, ⟨⟨0, List.replicate room (0, ⟨#[]⟩), by omega, ?_, ?_, by simp, fun i x hi => by simp at hi⟩, Nat.zero_le _, h2⟩, by omega, Nat.le_refl _, ((Below.refl _ _).alloc (Nat.le_refl _) _).alloc (by simp) _⟩
  · have h := Blk.new (w.alloc (.cells M 68)) 150 #[.slice (some ⟨w.heap.size, 0, none⟩) room room, .int .i64 0, .int .i64 0]
    simpa using h
  · have h := (Blk.new w 68 M).alloc (.cells #[.slice (some ⟨w.heap.size, 0, none⟩) room room, .int .i64 0, .int .i64 0] 150)
    rw [HML.out] at h
    exact h
theorem newP_bad (room : Int) (w : World) (h : room < 1 ∨ 4096 < room) : Calls Try.prog 37 #[.int .i64 room] w fun e w' => e = .returned (.tuple #[.pointer none, .int .i64 1]) ∧ w = w' := by
  by_cases h1 : room < 1
  · clear h
    have hd1 : decide (room < 1) = true := decide_eq_true h1
    go_enter Try.func37, Try.ntmps37
    go_wp2_with fail
    go_ret2
    exact ⟨rfl, rfl⟩
  · have hd1 : decide (room < 1) = false := decide_eq_false h1
    have hd2 : decide (4096 < room) = true := decide_eq_true (by omega)
    clear h
    go_enter Try.func37, Try.ntmps37
    go_wp2_with fail
    go_ret2
    exact ⟨rfl, rfl⟩


def putP (xs : List (Int × ByteArray)) (room : Nat) (x : Int × ByteArray) : List (Int × ByteArray) := if xs.length < room then xs ++ [x] else xs
theorem ringPutP_math {first room : Nat} {cs xs : List (Int × ByteArray)} {x : Int × ByteArray} (hc : cs.length = room) (hf : first < room) (hl : xs.length < room) (h : ∀ i y, xs[i]? = some y → cs[(first + i) % room]? = some y) :
    ∀ i y, (xs ++ [x])[i]? = some y → (cs.set ((first + xs.length) % room) x)[(first + i) % room]? = some y := fun i y hy => by
  rcases Nat.lt_trichotomy i xs.length with hi | hi | hi
  · rw [List.getElem?_append_left hi] at hy
    rw [List.getElem?_set_ne (Ne.symm (mod_ne hi (by omega)))]
    exact h i y hy
  · subst hi
    rw [List.getElem?_append_right (Nat.le_refl _), Nat.sub_self] at hy
    rw [List.getElem?_set_self (by rw [hc]; exact Nat.mod_lt _ (by omega))]
    exact hy
  · rw [List.getElem?_eq_none (by simp; omega)] at hy
    cases hy
def RgEndsP (w : World) (p g room : Nat) (v : Value) (xs : List (Int × ByteArray)) (e : Ending) (w' : World) : Prop := e = .returned v ∧ RgP w' p g room xs ∧ Fr [p, g] w w'
set_option maxRecDepth 100000 in
set_option maxHeartbeats 1600000 in
theorem putP_calls (p g room : Nat) (xs : List (Int × ByteArray)) (x : Int × ByteArray) (w : World) (h : RgP w p g room xs) :
    Calls Try.prog 40 #[.pointer (some ⟨p, 0, none⟩), VQ x] w (RgEndsP w p g room (.bool (decide (xs.length < room))) (putP xs room x)) := by
  obtain ⟨x1, x2⟩ := x
  have hne := h.ne
  have hle := h.le
  have hmost := h.most
  have hal := (Below.refl w.heap.size w).alloc (Nat.le_refl _) (.cells #[.int .i64 x1, .string x2] 68)
  have hbx := Blk.new w 68 #[.int .i64 x1, .string x2]
  have h1 := h.below hal
  have hqp : w.heap.size ≠ p := Ne.symm (Nat.ne_of_lt h.lt.1)
  have hqg : w.heap.size ≠ g := Ne.symm (Nat.ne_of_lt h.lt.2)
  have hfr0 : Fr [p, g] w (w.alloc (.cells #[.int .i64 x1, .string x2] 68)) := Fr.of_below hal
  obtain ⟨first, cs, hf, hb, hg, hc, hx⟩ := h1.body
  have H1 := Lib.hid h1
  clear h h1 hal
  unfold VQ
  by_cases hl : xs.length < room
  · have HP := Lib.hid (show putP xs room (x1, x2) = xs ++ [(x1, x2)] from if_pos hl)
    have HX := Lib.hid (ringPutP_math (x := (x1, x2)) hc hf hl hx)
    have hj : (first + xs.length) % room < room := Nat.mod_lt _ (by omega)
    have HC := Lib.hid (fun W (hW : Blk W p 150 [.slice (some ⟨g, 0, none⟩) room room, .int .i64 (first : Int), .int .i64 (xs.length : Int)]) => cellP_calls p g room first xs.length (xs.length : Int) W hW hf hmost (by omega))
    have hcj := List.getElem?_eq_getElem (l := cs) (i := (first + xs.length) % room) (by rw [hc]; exact hj)
    have gj := hg.cell ((first + xs.length) % room * 2)
    have gk := hg.cell ((first + xs.length) % room * 2 + 1)
    rw [(flatQ_at cs _ _ hcj).1] at gj
    rw [(flatQ_at cs _ _ hcj).2] at gk
    have fj := hg.frozen ((first + xs.length) % room * 2)
    have fk := hg.frozen ((first + xs.length) % room * 2 + 1)
    clear hcj
    generalize cs[(first + xs.length) % room]'(by rw [hc]; exact hj) = old at gj gk
    generalize (first + xs.length) % room = j at hj gj gk fj fk HX HC
    have hd : ((xs.length : Int) == (room : Int)) = false := beq_eq_false_iff_ne.2 (by omega)
    have i0 : (0 : Int) ≤ (j : Int) := Int.natCast_nonneg _
    have i1 : (j : Int) < (room : Int) := by omega
    clear hx H1
    go_enter Try.func40, Try.ntmps40
    go_upto_region 1 with fail
    generalize w.alloc (.cells #[.int .i64 x1, .string x2] 68) = w1 at *
    have f2 := hb.frozen 2
    have c0 := hb.cell 0
    have c1 := hb.cell 1
    have c2 := hb.cell 2
    have b0 := hbx.cell 0
    have b1 := hbx.cell 1
    simp only [List.getElem?_cons_zero, List.getElem?_cons_succ] at c0 c1 c2 b0 b1
    go_wp2_with fail
    go_quiet (fail)
    go_wp2_with fail
    go_region_held3 (fun w' => w'.cell? ⟨p, 0, none⟩ = some (.slice (some ⟨g, 0, none⟩) room room) ∧ w'.cell? ⟨p, 2, none⟩ = some (.int .i64 (xs.length : Int)) ∧ w'.cell? ⟨w.heap.size, 0, none⟩ = some (.int .i64 x1) ∧ w'.cell? ⟨w.heap.size, 1, none⟩ = some (.string x2)) (first | (exact ⟨keep_set1 (keep_set1 c0 hne) hne, keep_set1 (keep_set1 c2 hne) hne, keep_set1 (keep_set1 b0 hqg) hqg, keep_set1 (keep_set1 b1 hqg) hqg⟩) | (exact ⟨keep_set1 (keep_set1 c0 (Ne.symm hne)) (Ne.symm hne), keep_set1 (keep_set1 c2 (Ne.symm hne)) (Ne.symm hne), keep_set1 (keep_set1 b0 (Ne.symm hqg)) (Ne.symm hqg), keep_set1 (keep_set1 b1 (Ne.symm hqg)) (Ne.symm hqg)⟩) | go_keep) (first | (go_at_call 112; refine (HC.out _ (by exact hb)).mono ?_; rintro e w' ⟨rfl, q, rfl⟩))
    have hb2 := ((hb.drewN (nq + 1 + q)).far (p := ⟨g, j * 2, none⟩) hne (.int .i64 x1)).far (p := ⟨g, j * 2 + 1, none⟩) hne (.string x2)
    have hg2 : Blk (((w1.drewN (nq + 1 + q)).setCell ⟨g, j * 2, none⟩ (.int .i64 x1)).setCell ⟨g, j * 2 + 1, none⟩ (.string x2)) g 68 (flatQ (cs.set j (x1, x2))) := by rw [← flatQ_set]; exact ((hg.drewN _).set_ (j * 2) (.int .i64 x1)).set_ (j * 2 + 1) (.string x2)
    have hf2 := ((hfr0.drewN (nq + 1 + q)).set (p := g) (o := j * 2) (by simp) (.int .i64 x1)).set (p := g) (o := j * 2 + 1) (by simp) (.string x2)
    generalize ((w1.drewN (nq + 1 + q)).setCell ⟨g, j * 2, none⟩ (.int .i64 x1)).setCell ⟨g, j * 2 + 1, none⟩ (.string x2) = w2 at hb2 hg2 hf2 ⊢
    have e0 := hb2.cell 0
    have e2 := hb2.cell 2
    have ef2 := hb2.frozen 2
    simp only [List.getElem?_cons_zero, List.getElem?_cons_succ] at e0 e2
    clear c0 c1 c2 f2 gj gk fj fk hb hg hfr0 HC b0 b1 hbx
    have hb3 := hb2.set_ 2 (.int .i64 ((xs.length + 1 : Nat) : Int))
    have hg3 := hg2.far (p := ⟨p, 2, none⟩) (Ne.symm hne) (.int .i64 ((xs.length + 1 : Nat) : Int))
    have hf3 := hf2.set (p := p) (o := 2) (by simp) (.int .i64 ((xs.length + 1 : Nat) : Int))
    simp only [List.set_cons_zero, List.set_cons_succ] at hb3
    go_wp2_with fail
    go_ret
    have hd2 : decide (xs.length < room) = true := decide_eq_true hl
    rw [HP.out, hd2]
    exact ⟨rfl, ⟨⟨first, cs.set j (x1, x2), hf, by rw [List.length_append]; exact hb3, hg3, by rw [List.length_set]; exact hc, HX.out⟩, by rw [List.length_append]; exact hl, hmost⟩, hf3⟩
  · have HP := Lib.hid (show putP xs room (x1, x2) = xs from if_neg hl)
    have hd : ((xs.length : Int) == (room : Int)) = true := beq_iff_eq.2 (by omega)
    clear hx
    go_enter Try.func40, Try.ntmps40
    go_upto_region 1 with fail
    generalize w.alloc (.cells #[.int .i64 x1, .string x2] 68) = w1 at *
    have c0 := hb.cell 0
    have c2 := hb.cell 2
    simp only [List.getElem?_cons_zero, List.getElem?_cons_succ] at c0 c2
    clear hb hg hbx
    go_wp2_with fail
    go_quiet (fail)
    go_wp2_with fail
    go_ret
    have hd2 : decide (xs.length < room) = false := decide_eq_false hl
    rw [HP.out, hd2]
    exact ⟨rfl, H1.out.drewN _, hfr0.drewN _⟩
/-- Drop, on the list: how many -/
def dropP (xs : List (Int × ByteArray)) (n : Int) : Nat := (max 0 (min n (xs.length : Int))).toNat
theorem dropP_le (xs : List (Int × ByteArray)) (n : Int) : dropP xs n ≤ xs.length := by unfold dropP; omega

set_option maxHeartbeats 1600000 in
theorem dropP_calls (p g room : Nat) (xs : List (Int × ByteArray)) (n : Int) (w : World) (h : RgP w p g room xs) (hn : -9223372036854775808 ≤ n ∧ n ≤ 9223372036854775807) :
    Calls Try.prog 46 #[.pointer (some ⟨p, 0, none⟩), .int .i64 n] w (RgEndsP w p g room (.int .i64 (dropP xs n : Int)) (xs.drop (dropP xs n))) := by
  have hne := h.ne
  have hle := h.le
  have hmost := h.most
  obtain ⟨first, cs, hf, hb, hg, hc, hx⟩ := h.body
  have hm := dropP_le xs n
  have c0 := hb.cell 0
  have c1 := hb.cell 1
  have c2 := hb.cell 2
  simp only [List.getElem?_cons_zero, List.getElem?_cons_succ] at c0 c1 c2
  go_enter Try.func46, Try.ntmps46
  go_upto_region 1 with fail
  go_cut [1] (fun s1 wx => s1 = .int .i64 (dropP xs n : Int) ∧ wx = w)
  case first =>
    go_wp2_with fail
    all_goals
      go_meet
      refine ⟨congrArg (Value.int .i64) ?_, rfl⟩
      unfold dropP
      omega
  case rest =>
    obtain ⟨rfl, hw⟩ := hcut
    subst hw
    generalize hm0 : dropP xs n = m at hm
    have HM := Lib.hid hm0
    clear hm0
    go_wp2_with fail
    have HB := Lib.hid hb
    have HG : Hid (∃ cs' : List (Int × ByteArray), cs'.length = room ∧ Blk wc g 68 (flatQ cs') ∧ ∀ i x, 0 ≤ i → xs[i]? = some x → cs'[(first + i) % room]? = some x) := show ∃ _, _ from ⟨cs, hc, hg, fun i x _ => hx i x⟩
    have HF0 : Fr [p, g] wc wc := Fr.refl _ _
    clear hb hg hx hc c0 c1 c2
    go_loopw [5, 6, 15] (fun _ _ k wr => ∃ j : Nat, j ≤ m ∧ k = .int .i64 j ∧ Hid (Blk wr p 150 [.slice (some ⟨g, 0, none⟩) room room, .int .i64 (first : Int), .int .i64 (xs.length : Int)]) ∧ Hid (∃ cs' : List (Int × ByteArray), cs'.length = room ∧ Blk wr g 68 (flatQ cs') ∧ ∀ i x, j ≤ i → xs[i]? = some x → cs'[(first + i) % room]? = some x) ∧ Fr [p, g] wc wr) (fun _ _ k _ => m - (intOf k).toNat)
    case atStart => exact ⟨0, Nat.zero_le _, rfl, HB, HG, HF0⟩
    case round =>
      clear HB HG HF0
      obtain ⟨j, hj, rfl, HB, HG, HF⟩ := hrel
      by_cases hlt : j < m
      · obtain ⟨cs, hc, hg, hx⟩ := HG.out
        have HX : Hid (∀ i x, j + 1 ≤ i → xs[i]? = some x → (cs.set ((first + j) % room) (0, ⟨#[]⟩))[(first + i) % room]? = some x) := show ∀ _, _ from fun i x hi hix => by
          have hil : i < xs.length := (List.getElem?_eq_some_iff.1 hix).1
          rw [List.getElem?_set_ne (mod_ne (show j < i by omega) (by omega))]
          exact hx i x (by omega) hix
        have hjr : (first + j) % room < room := Nat.mod_lt _ (by omega)
        have HC := Lib.hid (fun W (hW : Blk W p 150 [.slice (some ⟨g, 0, none⟩) room room, .int .i64 (first : Int), .int .i64 (xs.length : Int)]) => cellP_calls p g room first j (xs.length : Int) W hW hf hmost (by omega))
        have hcj := List.getElem?_eq_getElem (l := cs) (i := (first + j) % room) (by rw [hc]; exact hjr)
        have hqp : wr.heap.size ≠ p := Ne.symm (Nat.ne_of_lt HB.out.lt)
        have hqg : wr.heap.size ≠ g := Ne.symm (Nat.ne_of_lt hg.lt)
        have hfr0 : Fr [p, g] wc (wr.alloc (.cells #[.int .i64 0, .string ⟨#[]⟩] 68)) := HF.alloc _
        have hb := HB.out.alloc (.cells #[.int .i64 0, .string ⟨#[]⟩] 68)
        have hga := hg.alloc (.cells #[.int .i64 0, .string ⟨#[]⟩] 68)
        have hbx := Blk.new wr 68 #[.int .i64 0, .string ⟨#[]⟩]
        have gj := hga.cell ((first + j) % room * 2)
        have gk := hga.cell ((first + j) % room * 2 + 1)
        rw [(flatQ_at cs _ _ hcj).1] at gj
        rw [(flatQ_at cs _ _ hcj).2] at gk
        have fj := hga.frozen ((first + j) % room * 2)
        have fk := hga.frozen ((first + j) % room * 2 + 1)
        clear hcj
        generalize cs[(first + j) % room]'(by rw [hc]; exact hjr) = old at gj gk
        generalize (first + j) % room = r at hjr gj gk fj fk HX HC
        have i0 : (0 : Int) ≤ (r : Int) := Int.natCast_nonneg _
        have i1 : (r : Int) < (room : Int) := by omega
        have HCL := Lib.hid hc
        clear hx hc hg HG HB HF
        go_upto_region 6 with fail
        generalize wr.alloc (.cells #[.int .i64 0, .string ⟨#[]⟩] 68) = w1 at *
        generalize wr.heap.size = bq at *
        have c0 := hb.cell 0
        have b0 := hbx.cell 0
        have b1 := hbx.cell 1
        simp only [List.getElem?_cons_zero, List.getElem?_cons_succ] at c0 b0 b1
        go_wp2_with fail
        go_region_held3 (fun w' => w'.cell? ⟨p, 0, none⟩ = some (.slice (some ⟨g, 0, none⟩) room room) ∧ w'.cell? ⟨bq, 0, none⟩ = some (.int .i64 0) ∧ w'.cell? ⟨bq, 1, none⟩ = some (.string ⟨#[]⟩)) (first | (exact ⟨keep_set1 (keep_set1 c0 hne) hne, keep_set1 (keep_set1 b0 hqg) hqg, keep_set1 (keep_set1 b1 hqg) hqg⟩) | (exact ⟨keep_set1 (keep_set1 c0 (Ne.symm hne)) (Ne.symm hne), keep_set1 (keep_set1 b0 (Ne.symm hqg)) (Ne.symm hqg), keep_set1 (keep_set1 b1 (Ne.symm hqg)) (Ne.symm hqg)⟩) | go_keep) (first | (go_at_call 112; refine (HC.out _ (by exact hb)).mono ?_; rintro e w' ⟨rfl, q, rfl⟩))
        have hb2 := ((hb.drewN (1 + q)).far (p := ⟨g, r * 2, none⟩) hne (.int .i64 0)).far (p := ⟨g, r * 2 + 1, none⟩) hne (.string ⟨#[]⟩)
        have hg2 : Blk (((w1.drewN (1 + q)).setCell ⟨g, r * 2, none⟩ (.int .i64 0)).setCell ⟨g, r * 2 + 1, none⟩ (.string ⟨#[]⟩)) g 68 (flatQ (cs.set r (0, ⟨#[]⟩))) := by rw [← flatQ_set]; exact ((hga.drewN _).set_ (r * 2) (.int .i64 0)).set_ (r * 2 + 1) (.string ⟨#[]⟩)
        have hf2 := ((hfr0.drewN (1 + q)).set (p := g) (o := r * 2) (by simp) (.int .i64 0)).set (p := g) (o := r * 2 + 1) (by simp) (.string ⟨#[]⟩)
        generalize ((w1.drewN (1 + q)).setCell ⟨g, r * 2, none⟩ (.int .i64 0)).setCell ⟨g, r * 2 + 1, none⟩ (.string ⟨#[]⟩) = w2 at hb2 hg2 hf2 ⊢
        have HG2 : Hid (∃ cs' : List (Int × ByteArray), cs'.length = room ∧ Blk w2 g 68 (flatQ cs') ∧ ∀ i x, j + 1 ≤ i → xs[i]? = some x → cs'[(first + i) % room]? = some x) := show ∃ _, _ from ⟨cs.set r (0, ⟨#[]⟩), by rw [List.length_set]; exact HCL.out, hg2, HX.out⟩
        have HB2 := Lib.hid hb2
        clear hb hga hbx c0 b0 b1 gj gk fj fk hfr0 HC hb2 hg2 HX
        go_wp2_with fail
        go_roundw
        case rel => exact ⟨j + 1, by omega, by go_num, HB2, HG2, hf2⟩
        case measure => simp [intOf]; omega
      · obtain rfl : j = m := by omega
        have HC := Lib.hid (cellP_calls p g room first j (xs.length : Int) wr HB.out hf hmost (by omega))
        have hjr : (first + j) % room < room := Nat.mod_lt _ (by omega)
        generalize hr : (first + j) % room = r at hjr HC
        have HR := Lib.hid hr
        clear hr
        have f1 := HB.out.frozen 1
        have f2 := HB.out.frozen 2
        have c1 := HB.out.cell 1
        have c2 := HB.out.cell 2
        simp only [List.getElem?_cons_zero, List.getElem?_cons_succ] at c1 c2
        go_wp2_with fail
        refine HC.out.mono ?_
        rintro e w' ⟨rfl, q, rfl⟩
        have HXL := Lib.hid (show ((xs.drop j).length : Int) = (xs.length : Int) - (j : Int) by rw [List.length_drop]; omega)
        have hb3 : Blk (((wr.drewN q).setCell ⟨p, 1, none⟩ (.int .i64 (r : Int))).setCell ⟨p, 2, none⟩ (.int .i64 ((xs.length : Int) - (j : Int)))) p 150 [.slice (some ⟨g, 0, none⟩) room room, .int .i64 (r : Int), .int .i64 ((xs.length : Int) - (j : Int))] := ((HB.out.drewN q).set_ 1 (.int .i64 (r : Int))).set_ 2 (.int .i64 ((xs.length : Int) - (j : Int)))
        have hf3 := ((HF.drewN q).set (p := p) (o := 1) (by simp) (.int .i64 (r : Int))).set (p := p) (o := 2) (by simp) (.int .i64 ((xs.length : Int) - (j : Int)))
        have HRg : Hid (RgP (((wr.drewN q).setCell ⟨p, 1, none⟩ (.int .i64 (r : Int))).setCell ⟨p, 2, none⟩ (.int .i64 ((xs.length : Int) - (j : Int)))) p g room (xs.drop j)) := by
          obtain ⟨cs, hc, hg, hx⟩ := HG.out
          have hg3 := ((hg.drewN q).far (p := ⟨p, 1, none⟩) (Ne.symm hne) (.int .i64 (r : Int))).far (p := ⟨p, 2, none⟩) (Ne.symm hne) (.int .i64 ((xs.length : Int) - (j : Int)))
          show RgP _ _ _ _ _
          refine ⟨⟨r, cs, hjr, by rw [HXL.out]; exact hb3, hg3, hc, fun i x hi => ?_⟩, by rw [List.length_drop]; omega, hmost⟩
          rw [List.getElem?_drop] at hi
          have h1 := hx (j + i) x (by omega) hi
          rw [← HR.out, Nat.mod_add_mod, Nat.add_assoc]
          exact h1
        clear HB HG HF hb3 HC HXL
        go_wp2_with fail
        go_ret
        rw [HM.out]
        exact ⟨rfl, HRg.out, hf3⟩

end Go.Proofs.Ytepmnhlfjidhjaa
