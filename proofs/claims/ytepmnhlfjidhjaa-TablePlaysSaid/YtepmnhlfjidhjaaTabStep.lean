/-
  The contract of spoorlaw4.place.
-/
import Derived.Test.YtepmnhlfjidhjaaTabAny
import Derived.Deep.RegionHeld3
namespace Go.Proofs.Ytepmnhlfjidhjaa
open Go.RowKit Go.Mem Go.Proofs

def flatP (l : List (Int × Int)) : List Value := l.flatMap fun g => [.int .i64 g.1, .int .i64 g.2]
theorem flatP_length (l : List (Int × Int)) : (flatP l).length = l.length * 2 := by
  induction l with
  | nil => rfl
  | cons g l ih => simp [flatP] at ih ⊢; omega
theorem flatP_app (l m : List (Int × Int)) : flatP (l ++ m) = flatP l ++ flatP m := by simp [flatP]
theorem flatP_cons (g : Int × Int) (l : List (Int × Int)) : flatP (g :: l) = .int .i64 g.1 :: .int .i64 g.2 :: flatP l := rfl
theorem flatP_one (l : List (Int × Int)) : ∀ u ∈ flatP l, u.oneCell' = true := by
  intro u hu
  obtain ⟨g, _, hg⟩ := List.mem_flatMap.1 hu
  rcases List.mem_cons.1 hg with rfl | hg
  · rfl
  · rw [List.mem_singleton.1 hg]; rfl
theorem flatP_at (l : List (Int × Int)) (k : Nat) (g : Int × Int) (h : l[k]? = some g) : (flatP l)[k * 2]? = some (.int .i64 g.1) ∧ (flatP l)[k * 2 + 1]? = some (.int .i64 g.2) := by
  induction l generalizing k with
  | nil => simp at h
  | cons f l ih =>
    cases k with
    | zero => simp at h; subst h; exact ⟨rfl, rfl⟩
    | succ k =>
      have := ih k (by simpa using h)
      rw [show (k + 1) * 2 = k * 2 + 1 + 1 by omega]
      exact this
theorem flatP_take (l : List (Int × Int)) (k : Nat) : flatP (l.take k) = (flatP l).take (k * 2) := by
  induction l generalizing k with
  | nil => simp [flatP]
  | cons g l ih =>
    cases k with
    | zero => rfl
    | succ k =>
      rw [List.take_succ_cons, flatP_cons, flatP_cons, ih, show (k + 1) * 2 = k * 2 + 1 + 1 by omega]
      rfl
theorem flatP_drop (l : List (Int × Int)) (k : Nat) : flatP (l.drop k) = (flatP l).drop (k * 2) := by
  induction l generalizing k with
  | nil => simp [flatP]
  | cons g l ih =>
    cases k with
    | zero => rfl
    | succ k =>
      rw [List.drop_succ_cons, flatP_cons, ih, show (k + 1) * 2 = k * 2 + 1 + 1 by omega]
      rfl
theorem infoP : (Try.prog.info? 104).map (fun i => (i.zero, i.size, i.bytes)) = some (some (.agg #[.int .i64 0, Value.int .i64 0]), 2, 16) := by kernel_rfl

set_option maxHeartbeats 800000 in
theorem place_calls (D : Option Addr) (n c : Nat) (ps : List (Int × Int)) (k : Int) (i : Nat) (w : World) (hl : ps.length = n) (hn : n ≤ 1000000) (h : Sl w D (flatP ps)) (hat : Tab.At ltI (ps.map (·.1)) k i) :
    Calls Try.prog 121 #[.slice D n c, .int .i64 k] w fun e w' => e = .returned (.tuple #[.int .i64 (i : Int), .bool (decide ((ps.map (·.1))[i]? = some k))]) ∧ ∃ q, w' = w.drewN q := by
  subst hl
  have hi : i ≤ ps.length := by simpa using hat.1
  have HA := Lib.hid hat
  have HS := Lib.hid h
  clear hat h
  go_enter Try.func121, Try.ntmps121
  go_wp2_with fail
  go_loopw [6] (fun s6 wr => ∃ (j : Nat), j ≤ i ∧ s6 = .int .i64 j ∧ wr = w) (fun s _ => ps.length - (intOf s).toNat)
  case atStart => exact ⟨0, Nat.zero_le _, rfl, rfl⟩
  case round =>
    obtain ⟨j, hj, rfl, hw⟩ := hrel
    obtain rfl := hw.symm
    by_cases hlt : j < ps.length
    · obtain ⟨g, hg⟩ : ∃ g, ps[j]? = some g := ⟨_, List.getElem?_eq_getElem hlt⟩
      obtain ⟨b, o, rfl, hc⟩ := HS.out _ _ (flatP_at ps j g hg).1
      have j0 : (0 : Int) ≤ (j : Int) := Int.natCast_nonneg _
      have j1 : (j : Int) < (ps.length : Int) := by omega
      by_cases hji : j < i
      · have hlk : decide (g.1 < k) = true := HA.out.2.1 j g.1 hji (by simp [hg])
        clear hg
        go_wp2_with fail
        go_roundw
        case rel => exact ⟨j + 1, by omega, by go_num, trivial⟩
        case measure => simp [intOf]; omega
      · obtain rfl : j = i := by omega
        have hlk : decide (g.1 < k) = false := HA.out.2.2 j g.1 (Nat.le_refl _) (by simp [hg])
        by_cases he : g.1 = k
        · have hb : (g.1 == k) = true := beq_iff_eq.2 he
          have hF : Hid (decide ((ps.map (·.1))[j]? = some k) = true) := (show _ = _ by simp [hg, he])
          clear hg he hji
          go_wp2_with fail
          go_big_quiet (fail)
          go_wp2_with fail
          go_ret2
          exact ⟨by rw [hF.out]; rfl, _, rfl⟩
        · have hb : (g.1 == k) = false := beq_eq_false_iff_ne.2 he
          have hF : Hid (decide ((ps.map (·.1))[j]? = some k) = false) := (show _ = _ by simp [hg, he])
          clear hg he hji
          go_wp2_with fail
          go_big_quiet (fail)
          go_wp2_with fail
          go_ret2
          exact ⟨by rw [hF.out]; rfl, _, rfl⟩
    · obtain rfl : j = i := by omega
      have hF : Hid (decide ((ps.map (·.1))[j]? = some k) = false) := (show _ = _ by rw [List.getElem?_eq_none (by simp; omega)]; rfl)
      have hd : decide ((j : Int) < (ps.length : Int)) = false := decide_eq_false (by omega)
      go_wp2_with fail
      go_big_quiet (fail)
      go_wp2_with fail
      go_ret2
      exact ⟨by rw [hF.out]; rfl, _, rfl⟩
end Go.Proofs.Ytepmnhlfjidhjaa
