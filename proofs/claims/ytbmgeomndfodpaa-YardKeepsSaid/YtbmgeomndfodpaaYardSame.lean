/-
  The contract of spoorbook.Same at api.File, where the lists are the same; Create's contract in one.
-/
import Derived.Test.YtbmgeomndfodpaaYardRead2
namespace Go.Proofs.Ytbmgeomndfodpaa
open Go.RowKit Go.Mem Go.Proofs

theorem Sl.file {w : World} {A : Option Addr} {l : List (Int × ByteArray × Int)} (h : Sl w A (flatG l)) {k : Nat} {g : Int × ByteArray × Int} (hk : l[k]? = some g) : ∃ b o, A = some ⟨b, o, none⟩ ∧ w.cell? ⟨b, o + k * 3, none⟩ = some (.int .i64 g.1) ∧ w.cell? ⟨b, o + k * 3 + 1, none⟩ = some (.string g.2.1) ∧ w.cell? ⟨b, o + k * 3 + 2, none⟩ = some (.int .i64 g.2.2) := by
  obtain ⟨h1, h2, h3⟩ := flatG_at hk
  obtain ⟨b, o, e, c1⟩ := h _ _ h1
  obtain ⟨b2, o2, e2, c2⟩ := h _ _ h2
  obtain ⟨b3, o3, e3, c3⟩ := h _ _ h3
  obtain ⟨rfl, rfl⟩ : b = b2 ∧ o = o2 := by rw [e] at e2; injection e2 with e2; injection e2 with e2 e4; exact ⟨e2, e4⟩
  obtain ⟨rfl, rfl⟩ : b = b3 ∧ o = o3 := by rw [e] at e3; injection e3 with e3; injection e3 with e3 e4; exact ⟨e3, e4⟩
  exact ⟨b, o, e, c1, by rw [Nat.add_assoc]; exact c2, by rw [Nat.add_assoc]; exact c3⟩
set_option maxRecDepth 100000 in
set_option maxHeartbeats 800000 in
theorem sameG_true (A B : Option Addr) (n m c1 c2 : Nat) (l : List (Int × ByteArray × Int)) (w : World) (hx : l.length = n) (hy : l.length = m) (hn : n ≤ 9223372036854775807) (hA : Sl w A (flatG l)) (hB : Sl w B (flatG l)) :
    Calls Try.prog 18 #[.slice A n c1, .slice B m c2] w fun e w' => e = .returned (.bool true) ∧ ∃ q, w' = w.drewN q := by
  subst hx hy
  have hne : ((l.length : Int) != (l.length : Int)) = false := by simp
  go_enter Try.func18, Try.ntmps18
  go_wp2_with fail
  go_loopw [5] (fun i wr => ∃ (k : Nat), k ≤ l.length ∧ i = .int .i64 k ∧ ∃ q, wr = w.drewN q) (fun i _ => l.length - (intOf i).toNat)
  case atStart => exact ⟨0, Nat.zero_le _, rfl, 0, rfl⟩
  case round =>
    obtain ⟨k, hk, rfl, q, rfl⟩ := hrel
    clear hne
    by_cases hlt : k < l.length
    · have hr : l[k]? = some l[k] := List.getElem?_eq_getElem hlt
      obtain ⟨b, o, rfl, ha, ha2, ha3⟩ := Sl.file hA hr
      obtain ⟨b2, o2, rfl, hb, hb2, hb3⟩ := Sl.file hB hr
      generalize l[k] = r at ha ha2 hb hb2 ha3 hb3
      obtain ⟨r1, r2, r3⟩ := r
      have e1 : (r1 == r1) = true := beq_iff_eq.2 rfl
      have e2 : (r2.toList == r2.toList) = true := beq_iff_eq.2 rfl
      have e3 : (r3 == r3) = true := beq_iff_eq.2 rfl
      have i0 : (0 : Int) ≤ (k : Int) := Int.natCast_nonneg _
      have i1 : (k : Int) < (l.length : Int) := by omega
      clear hr
      go_wp2_with fail
      go_quiet (fail)
      go_wp2_with fail
      go_roundw
      case rel => exact ⟨k + 1, by omega, by go_num, _, rfl⟩
      case measure => simp [intOf]; omega
    · go_wp2_with fail
      go_ret
      exact ⟨rfl, _, rfl⟩
theorem create_calls {w : World} {B y : Nat} {m : List MF} {tk : List (Int × Int)} {S : Nat → Prop} (h : YS w B y m tk S) (hg : Gd m) (s : ByteArray) (hs : s.size ≤ 9223372036854775807) (hBw : B ≤ w.heap.size) :
    Calls Try.prog 15 #[.pointer (some ⟨y, 0, none⟩), .string s] w (YEnds w B y (.int .i64 (createNo s m)) (createM s m) tk S) := by
  obtain ⟨pF, pT, DK, DV, DK2, DV2, vs, h, rfl⟩ := h
  by_cases h0 : createNo s m = 0
  · rw [h0]
    exact create_done h hg s hs h0 hBw
  · have hm : createM s m = m := if_neg h0
    rw [hm]
    refine (create_refused h (by have := hg.len; omega) s hs h0).mono ?_
    rintro e w' ⟨rfl, h1, b1⟩
    exact YEnds.same h1 b1 hBw
/-- New -/
theorem new_calls (w : World) : Calls Try.prog 14 #[] w fun e w' => ∃ y S, e = .returned (.pointer (some ⟨y, 0, none⟩)) ∧ YS w' w.heap.size y [] [] S ∧ Below w.heap.size w w' := by
  refine (newY_calls w).mono ?_
  intro e w' h
  obtain ⟨y, pF, pT, rfl, h1, h2⟩ := Yd.new h
  exact ⟨y, _, rfl, ⟨_, _, _, _, _, _, _, h1, rfl⟩, h2⟩
end Go.Proofs.Ytbmgeomndfodpaa
