/-
  The contracts of package line's splitter.
-/
import Derived.Test.YtepfmmphajdlfabObj
namespace Go.Line
/-- a byte's step: the count, given up, what is told -/
def step (n : Nat) (l : Bool) (c : UInt8) : Nat × Bool × Nat :=
  if c = 10 then (0, false, if l then 5 else 2) else if l then (n, true, 4) else if n = 200 then (0, true, 3) else (n + 1, false, 1)
theorem step_le (n : Nat) (l : Bool) (c : UInt8) (h : n ≤ 200) : (step n l c).1 ≤ 200 := by
  unfold step
  repeat' split
  all_goals simp
  all_goals omega
end Go.Line
namespace Go.Proofs.Ytepfmmphajdlfab
open Go.RowKit Go.Mem

/-- a splitter in block p -/
abbrev Spl (w : World) (p n : Nat) (l : Bool) : Prop := Blk w p 71 [.int .i64 (n : Int), .bool l]
def ByteEnds (w : World) (p : Nat) (r : Nat × Bool × Nat) (e : Ending) (w' : World) : Prop := e = .returned (.int .i64 (r.2.2 : Int)) ∧ Spl w' p r.1 r.2.1 ∧ w.grownBy w' (some p)

theorem u8_10 {c : UInt8} (h : c = 10) : ((c.toNat : Int) == 10) = true := by subst h; rfl
theorem u8_n10 {c : UInt8} (h : c ≠ 10) : ((c.toNat : Int) == 10) = false := beq_eq_false_iff_ne.2 (fun e => h (UInt8.toNat.inj (by show c.toNat = 10; omega)))

set_option maxHeartbeats 400000 in
theorem splByte_calls (p n : Nat) (l : Bool) (c : UInt8) (w : World) (hn : n ≤ 200) (h : Spl w p n l) :
    Calls Try.prog 26 #[.pointer (some ⟨p, 0, none⟩), .int .u8 (c.toNat : Int)] w (ByteEnds w p (Line.step n l c)) := by
  have c0 := h.cell 0
  have c1 := h.cell 1
  have f0 := h.frozen 0
  have f1 := h.frozen 1
  simp only [List.getElem?_cons_zero, List.getElem?_cons_succ] at c0 c1
  by_cases hc : c = 10
  · have h10 := u8_10 hc
    have HS : Hid (Line.step n l c = (0, false, if l then 5 else 2)) := by show _ = _; unfold Line.step; rw [if_pos hc]
    cases l
    all_goals
      clear hc
      go_enter Try.func26, Try.ntmps26
      go_wp2_with fail
      go_ret
      rw [HS.out]
      exact ⟨rfl, (h.set_ 0 _).set_ 1 _, only_set (only_set (only_refl _ _) _ _) _ _⟩
  · have h10 := u8_n10 hc
    cases l
    · by_cases h2 : n = 200
      · subst h2
        have HS : Hid (Line.step 200 false c = (0, true, 3)) := by show _ = _; unfold Line.step; rw [if_neg hc]; rfl
        clear hc
        go_enter Try.func26, Try.ntmps26
        go_wp2_with fail
        go_ret
        rw [HS.out]
        exact ⟨rfl, (h.set_ 0 _).set_ 1 _, only_set (only_set (only_refl _ _) _ _) _ _⟩
      · have HS : Hid (Line.step n false c = (n + 1, false, 1)) := by show _ = _; unfold Line.step; rw [if_neg hc, if_neg (by simp), if_neg h2]
        have hn2 : ((n : Int) == 200) = false := beq_eq_false_iff_ne.2 (by omega)
        clear hc
        go_enter Try.func26, Try.ntmps26
        go_wp2_with fail
        go_ret
        rw [HS.out]
        have h3 := h.set_ 0 (.int .i64 ((n + 1 : Nat) : Int))
        exact ⟨rfl, h3, only_set (only_refl _ _) _ _⟩
    · have HS : Hid (Line.step n true c = (n, true, 4)) := by show _ = _; unfold Line.step; rw [if_neg hc]; rfl
      clear hc
      go_enter Try.func26, Try.ntmps26
      go_wp2_with fail
      go_ret
      rw [HS.out]
      exact ⟨rfl, h, only_refl _ _⟩

/-- .. at given numbers -/
def ByteTold (w : World) (p n : Nat) (l : Bool) (k : Int) (e : Ending) (w' : World) : Prop := e = .returned (.int .i64 k) ∧ Spl w' p n l ∧ w.grownBy w' (some p)
theorem splByteC (p n : Nat) (l : Bool) (c : UInt8) (x : Int) (n' : Nat) (l' : Bool) (kd : Nat) (k : Int) (w : World) (hx : (c.toNat : Int) = x) (hr : Line.step n l c = (n', l', kd)) (hk : (kd : Int) = k) (hn : n ≤ 200) (h : Spl w p n l) :
    Calls Try.prog 26 #[.pointer (some ⟨p, 0, none⟩), .int .u8 x] w (ByteTold w p n' l' k) := by
  subst hx hk
  have h1 := splByte_calls p n l c w hn h
  rw [hr] at h1
  exact h1

theorem splLen_calls (p n : Nat) (l : Bool) (w : World) (h : Spl w p n l) :
    Calls Try.prog 27 #[.pointer (some ⟨p, 0, none⟩)] w fun e w' => e = .returned (.int .i64 (n : Int)) ∧ w = w' := by
  have c0 := h.cell 0
  simp only [List.getElem?_cons_zero] at c0
  go_enter Try.func27, Try.ntmps27
  go_wp2_with fail
  go_ret
  exact ⟨rfl, rfl⟩
theorem splLong_calls (p n : Nat) (l : Bool) (w : World) (h : Spl w p n l) :
    Calls Try.prog 28 #[.pointer (some ⟨p, 0, none⟩)] w fun e w' => e = .returned (.bool l) ∧ w = w' := by
  have c1 := h.cell 1
  simp only [List.getElem?_cons_zero, List.getElem?_cons_succ] at c1
  go_enter Try.func28, Try.ntmps28
  go_wp2_with fail
  go_ret
  exact ⟨rfl, rfl⟩
/-- a new object in block w.heap.size, and what is new beside -/
def NewEnds (w : World) (v : Value) (t : TypeId) (cs : List Value) (e : Ending) (w' : World) : Prop := e = .returned v ∧ Blk w' w.heap.size t cs ∧ Below w.heap.size w w'
theorem splNew_calls (w : World) : Calls Try.prog 25 #[] w (NewEnds w (.pointer (some ⟨w.heap.size, 0, none⟩)) 71 [.int .i64 0, .bool false]) := by
  go_enter Try.func25, Try.ntmps25
  go_wp2_with fail
  go_ret
  exact ⟨rfl, Blk.new _ _ _, (Below.refl _ _).alloc (Nat.le_refl _) _⟩
/-- Of: is it refused? -/
def ofBad (n : Int) (l : Bool) : Bool := decide (n < 0) || decide (200 < n) || (l && decide (n ≠ 0))
theorem splOf_bad (n : Int) (l : Bool) (w : World) (h : ofBad n l = true) : Calls Try.prog 29 #[.int .i64 n, .bool l] w fun e w' => e = .returned (.tuple #[.pointer none, .int .i64 1]) ∧ w = w' := by
  unfold ofBad at h
  by_cases h1 : n < 0
  · clear h
    have hd : decide (n < 0) = true := decide_eq_true h1
    go_enter Try.func29, Try.ntmps29
    go_wp2_with fail
    go_ret2
    exact ⟨rfl, rfl⟩
  · have hd1 : decide (n < 0) = false := decide_eq_false h1
    by_cases h2 : 200 < n
    · clear h
      have hd : decide (200 < n) = true := decide_eq_true h2
      go_enter Try.func29, Try.ntmps29
      go_wp2_with fail
      go_ret2
      exact ⟨rfl, rfl⟩
    · have hd2 : decide (200 < n) = false := decide_eq_false h2
      rw [hd1, hd2] at h
      simp only [Bool.false_or, Bool.and_eq_true, decide_eq_true_eq] at h
      obtain ⟨rfl, h3⟩ := h
      have hb : (n != 0) = true := bne_iff_ne.2 h3
      clear h3
      go_enter Try.func29, Try.ntmps29
      go_wp2_with fail
      go_ret2
      exact ⟨rfl, rfl⟩
theorem splOf_ok (n : Int) (l : Bool) (w : World) (h : ofBad n l = false) : Calls Try.prog 29 #[.int .i64 n, .bool l] w (NewEnds w (.tuple #[.pointer (some ⟨w.heap.size, 0, none⟩), .int .i64 0]) 71 [.int .i64 n, .bool l]) := by
  unfold ofBad at h
  simp only [Bool.or_eq_false_iff, decide_eq_false_iff_not] at h
  obtain ⟨⟨h1, h2⟩, h3⟩ := h
  have hd1 : decide (n < 0) = false := decide_eq_false h1
  have hd2 : decide (200 < n) = false := decide_eq_false h2
  cases l
  · clear h3
    go_enter Try.func29, Try.ntmps29
    go_wp2_with fail
    go_ret2
    exact ⟨rfl, Blk.new _ _ _, (Below.refl _ _).alloc (Nat.le_refl _) _⟩
  · have h4 : n = 0 := by simpa using h3
    subst h4
    clear h3
    go_enter Try.func29, Try.ntmps29
    go_wp2_with fail
    go_ret2
    exact ⟨rfl, Blk.new _ _ _, (Below.refl _ _).alloc (Nat.le_refl _) _⟩

set_option maxHeartbeats 400000 in
theorem refByte_calls (n : Nat) (l : Bool) (c : UInt8) (w : World) (hn : n ≤ 200) : Calls Try.prog 33 #[.agg #[.int .i64 (n : Int), .bool l], .int .u8 (c.toNat : Int)] w
    fun e w' => e = .returned (.tuple #[.agg #[.int .i64 ((Line.step n l c).1 : Int), .bool (Line.step n l c).2.1], .int .i64 ((Line.step n l c).2.2 : Int)]) ∧ Below w.heap.size w w' := by
  by_cases hc : c = 10
  · have h10 := u8_10 hc
    have HS : Hid (Line.step n l c = (0, false, if l then 5 else 2)) := by show _ = _; unfold Line.step; rw [if_pos hc]
    cases l
    all_goals
      clear hc
      go_enter Try.func33, Try.ntmps33
      go_wp2_with fail
    · exact bodyPost_ret (v := .tuple #[.agg #[.int .i64 0, .bool false], .int .i64 2]) (by simp [results, Try.results33, go_sem]) rfl ⟨by rw [HS.out]; rfl, ((Below.refl _ _).alloc (Nat.le_refl _) _).alloc (by simp) _⟩
    · exact bodyPost_ret (v := .tuple #[.agg #[.int .i64 0, .bool false], .int .i64 5]) (by simp [results, Try.results33, go_sem]) rfl ⟨by rw [HS.out]; rfl, ((Below.refl _ _).alloc (Nat.le_refl _) _).alloc (by simp) _⟩
  · have h10 := u8_n10 hc
    cases l
    · by_cases h2 : n = 200
      · subst h2
        have HS : Hid (Line.step 200 false c = (0, true, 3)) := by show _ = _; unfold Line.step; rw [if_neg hc]; rfl
        clear hc
        go_enter Try.func33, Try.ntmps33
        go_wp2_with fail
        exact bodyPost_ret (v := .tuple #[.agg #[.int .i64 0, .bool true], .int .i64 3]) (by simp [results, Try.results33, go_sem]) rfl ⟨by rw [HS.out]; rfl, ((Below.refl _ _).alloc (Nat.le_refl _) _).alloc (by simp) _⟩
      · have HS : Hid (Line.step n false c = (n + 1, false, 1)) := by show _ = _; unfold Line.step; rw [if_neg hc, if_neg (by simp), if_neg h2]
        have hn2 : ¬ (200 ≤ (n : Int)) := by omega
        clear hc
        go_enter Try.func33, Try.ntmps33
        go_wp2_with fail
        exact bodyPost_ret (v := .tuple #[.agg #[.int .i64 ((n : Int) + 1), .bool false], .int .i64 1]) (by simp [results, Try.results33, go_sem]) rfl ⟨by rw [HS.out]; rfl, ((Below.refl _ _).alloc (Nat.le_refl _) _).alloc (by simp) _⟩
    · have HS : Hid (Line.step n true c = (n, true, 4)) := by show _ = _; unfold Line.step; rw [if_neg hc]; rfl
      clear hc
      go_enter Try.func33, Try.ntmps33
      go_wp2_with fail
      exact bodyPost_ret (v := .tuple #[.agg #[.int .i64 (n : Int), .bool true], .int .i64 4]) (by simp [results, Try.results33, go_sem]) rfl ⟨by rw [HS.out]; rfl, ((Below.refl _ _).alloc (Nat.le_refl _) _).alloc (by simp) _⟩
end Go.Proofs.Ytepfmmphajdlfab
