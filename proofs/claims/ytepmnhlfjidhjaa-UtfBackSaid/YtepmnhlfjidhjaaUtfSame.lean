/-
  The contract of spoorbook.Same at api.Got, where the lists are the same.
-/
import Derived.Test.YtepmnhlfjidhjaaUtfAll
import Derived.Deep.QuietTactic
namespace Go.Proofs.Ytepmnhlfjidhjaa
open Go.RowKit Go.Mem

theorem flatG_at (l : List (Nat × Nat)) : ∀ (k : Nat) (r : Nat × Nat), l[k]? = some r → (flatG l)[k * 2]? = some (.int .i32 (r.1 : Int)) ∧ (flatG l)[k * 2 + 1]? = some (.int .i64 (r.2 : Int)) := by
  induction l with
  | nil => intro k r h; simp at h
  | cons x t ih =>
    intro k r h
    cases k with
    | zero => simp at h; subst h; exact ⟨rfl, rfl⟩
    | succ k =>
      have h2 := ih k r (by simpa using h)
      rw [show (k + 1) * 2 = k * 2 + 2 by omega]
      exact h2
theorem Sl.got {w : World} {A : Option Addr} {l : List (Nat × Nat)} (h : Sl w A (flatG l)) {k : Nat} {r : Nat × Nat} (hk : l[k]? = some r) : ∃ b o, A = some ⟨b, o, none⟩ ∧ w.cell? ⟨b, o + k * 2, none⟩ = some (.int .i32 (r.1 : Int)) ∧ w.cell? ⟨b, o + k * 2 + 1, none⟩ = some (.int .i64 (r.2 : Int)) := by
  obtain ⟨h1, h2⟩ := flatG_at l k r hk
  obtain ⟨b, o, e, hc⟩ := h _ _ h1
  obtain ⟨b2, o2, e2, hc2⟩ := h _ _ h2
  obtain ⟨rfl, rfl⟩ : b = b2 ∧ o = o2 := by rw [e] at e2; injection e2 with e; injection e with e1 e2; exact ⟨e1, e2⟩
  exact ⟨b, o, e, hc, by rw [Nat.add_assoc]; exact hc2⟩

set_option maxRecDepth 100000 in
set_option maxHeartbeats 800000 in
theorem sameG_true (A B : Option Addr) (n m c1 c2 : Nat) (l : List (Nat × Nat)) (w : World) (hx : l.length = n) (hy : l.length = m) (hn : n ≤ 9223372036854775807) (hA : Sl w A (flatG l)) (hB : Sl w B (flatG l)) :
    Calls Try.prog 22 #[.slice A n c1, .slice B m c2] w fun e w' => e = .returned (.bool true) ∧ ∃ q, w' = w.drewN q := by
  subst hx hy
  have hne : ((l.length : Int) != (l.length : Int)) = false := by simp
  go_enter Try.func22, Try.ntmps22
  go_wp2_with fail
  go_loopw [5] (fun i wr => ∃ (k : Nat), k ≤ l.length ∧ i = .int .i64 k ∧ ∃ q, wr = w.drewN q) (fun i _ => l.length - (intOf i).toNat)
  case atStart => exact ⟨0, Nat.zero_le _, rfl, 0, rfl⟩
  case round =>
    obtain ⟨k, hk, rfl, q, rfl⟩ := hrel
    clear hne
    by_cases hlt : k < l.length
    · have hr : l[k]? = some l[k] := List.getElem?_eq_getElem hlt
      obtain ⟨b, o, rfl, ha, ha2⟩ := Sl.got hA hr
      obtain ⟨b2, o2, rfl, hb, hb2⟩ := Sl.got hB hr
      generalize l[k] = r at ha ha2 hb hb2
      obtain ⟨r1, r2⟩ := r
      have e1 : ((r1 : Int) == (r1 : Int)) = true := beq_iff_eq.2 rfl
      have e2 : ((r2 : Int) == (r2 : Int)) = true := beq_iff_eq.2 rfl
      have i0 : (0 : Int) ≤ (k : Int) := Int.natCast_nonneg _
      have i1 : (k : Int) < (l.length : Int) := by omega
      clear hr
      go_wp2_with fail
      go_quiet (fail)
      go_wp2_with fail
      go_roundw
      case rel => exact ⟨k + 1, by omega, by go_num, _, rfl⟩
      case measure => simp [intOf]; omega
    · go_wp2_with fail
      go_ret
      exact ⟨rfl, _, rfl⟩
end Go.Proofs.Ytepmnhlfjidhjaa
