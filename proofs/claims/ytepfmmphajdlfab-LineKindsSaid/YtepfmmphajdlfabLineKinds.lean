/-
  LineKinds, its walk.
-/
import Derived.Test.YtepfmmphajdlfabLineB
import Derived.Test.YtepfmmphajdlfabLineRuns
namespace Go.Proofs.Ytepfmmphajdlfab
open Go.RowKit Go.Mem Go.Law

/-- where a line stands, and what the splitter has of it -/
def At (a n : Nat) (l : Bool) : Prop := (l = false ∧ a = n ∧ n ≤ 200) ∨ (l = true ∧ n = 0 ∧ 200 < a)

set_option maxHeartbeats 1600000 in
theorem lineKinds_calls (A : Option Addr) (n cap : Nat) (rs : List Run) (w : World) (hl : rs.length = n) (hn : n ≤ 9223372036854775807) (hs : RowsAt w A 2 (rs.map Run.cells)) (hok : ∀ r ∈ rs, r.ok) :
    Calls Try.prog 12 #[.slice A n cap] w fun e w' => e = .returned (.bool true) ∧ Below w.heap.size w w' := by
  have HB0 := Lib.hid (bytes_calls A n cap 1500 rs w hl hn hs hok (by decide))
  clear hs hok hn hl
  go_enter Try.func12, Try.ntmps12
  go_wp2_with fail
  refine HB0.out.mono ?_
  unfold SomeBytes
  rintro e w1 ⟨D, N, c, bs, rfl, HO0, hN, hb1⟩
  have HNl : Hid (bs.length = N) := by have := HO0.len; rw [List.length_map, Nat.mul_one] at this; exact this
  go_wp2_with fail
  refine (splNew_calls w1).mono ?_
  rintro e w2 ⟨rfl, hp0, hb2⟩
  have hB0 := hb1.trans (hb2.mono hb1.size)
  have hle := hb1.size
  have HO1 := Lib.hid (HO0.below hb2)
  clear HB0 HO0 hb1 hb2
  generalize w1.heap.size = p at hp0 hle
  go_wp2_with fail
  go_loopw [5, 6, 7] (fun a i _ wr => ∃ (j x n : Nat) (l : Bool), j ≤ N ∧ x ≤ j ∧ i = .int .i64 j ∧ a = .int .i64 x ∧ Hid (At x n l) ∧ Spl wr p n l ∧ Hid (OwnB wr w.heap.size 5 1 D N c (bs.map B8)) ∧ Below w.heap.size w wr) (fun _ i _ _ => N - (intOf i).toNat)
  case atStart => exact ⟨0, 0, 0, false, Nat.zero_le _, Nat.le_refl _, rfl, rfl, .inl ⟨rfl, rfl, by decide⟩, hp0, HO1, hB0⟩
  case round =>
    clear hp0 HO1 hB0
    obtain ⟨j, x, n, l, hj, hx, rfl, rfl, HA, hp, HO, hB⟩ := hrel
    by_cases hlt : j < N
    · obtain ⟨b, o, rfl, hca⟩ := HO.out.sl.byte (k := j) (by have := HNl.out; omega)
      have hcb : ∀ w' : World, OwnB w' w.heap.size 5 1 (some ⟨b, o, none⟩) N c (bs.map B8) → w'.cell? ⟨b, o + j, none⟩ = some (.int .u8 ((bs[j]'(by have := HNl.out; omega)).toNat : Int)) := fun w' h => by
        obtain ⟨b', o', e, hc⟩ := h.sl.byte (k := j) (by have := HNl.out; omega)
        obtain ⟨rfl, rfl⟩ : b = b' ∧ o = o' := by injection e with e; injection e with e1 e2; exact ⟨e1, e2⟩
        exact hc
      generalize bs[j]'(by have := HNl.out; omega) = u at hca hcb
      have HCB := Lib.hid hcb
      clear hcb
      by_cases h10 : u = 10
      · have hu := u8_10 h10
        cases l
        · have hxx : x = n ∧ n ≤ 200 := by rcases HA.out with ⟨_, h1, h2⟩ | ⟨h, _⟩; exact ⟨h1, h2⟩; cases h
          obtain ⟨rfl, h2⟩ := hxx
          have hgt : decide ((200 : Int) < (x : Int)) = false := decide_eq_false (by omega)
          have HC := splByteC p x false u u.toNat 0 false 2 2 wr rfl (by unfold Line.step; rw [if_pos h10]; rfl) rfl h2 hp
          have HCC := Lib.hid HC
          clear HC h10
          go_wp2_with fail
          refine HCC.out.mono ?_
          rintro e w3 ⟨rfl, hp3, ho⟩
          have hB3 := below_only hB ho hB.size hle
          have HO3 := Lib.hid (HO.out.only hp (by decide) ho)
          have hca3 := HCB.out _ HO3.out
          clear hp hB ho HO HCC HCB HA hca
          go_wp2_with fail
          go_roundw
          case rel => exact ⟨j + 1, 0, 0, false, by omega, by omega, by go_num, rfl, .inl ⟨rfl, rfl, by decide⟩, hp3, HO3, hB3⟩
          case measure => simp [intOf]; omega
        · have hxx : n = 0 ∧ 200 < x := by rcases HA.out with ⟨h, _⟩ | ⟨_, h1, h2⟩; cases h; exact ⟨h1, h2⟩
          obtain ⟨rfl, h2⟩ := hxx
          have hgt : decide ((200 : Int) < (x : Int)) = true := decide_eq_true (by omega)
          have HC := splByteC p 0 true u u.toNat 0 false 5 5 wr rfl (by unfold Line.step; rw [if_pos h10]; rfl) rfl (by decide) hp
          have HCC := Lib.hid HC
          clear HC h10
          go_wp2_with fail
          refine HCC.out.mono ?_
          rintro e w3 ⟨rfl, hp3, ho⟩
          have hB3 := below_only hB ho hB.size hle
          have HO3 := Lib.hid (HO.out.only hp (by decide) ho)
          have hca3 := HCB.out _ HO3.out
          clear hp hB ho HO HCC HCB HA hca
          go_wp2_with fail
          go_roundw
          case rel => exact ⟨j + 1, 0, 0, false, by omega, by omega, by go_num, rfl, .inl ⟨rfl, rfl, by decide⟩, hp3, HO3, hB3⟩
          case measure => simp [intOf]; omega
      · have hu := u8_n10 h10
        cases l
        · have hxx : x = n ∧ n ≤ 200 := by rcases HA.out with ⟨_, h1, h2⟩ | ⟨h, _⟩; exact ⟨h1, h2⟩; cases h
          obtain ⟨rfl, h2⟩ := hxx
          by_cases h200 : x < 200
          · have hlt2 : decide ((x : Int) < 200) = true := decide_eq_true (by omega)
            have HC := splByteC p x false u u.toNat (x + 1) false 1 1 wr rfl (by unfold Line.step; rw [if_neg h10, if_neg (by decide), if_neg (by omega)]) rfl h2 hp
            have HCC := Lib.hid HC
            clear HC h10
            go_wp2_with fail
            refine HCC.out.mono ?_
            rintro e w3 ⟨rfl, hp3, ho⟩
            have hB3 := below_only hB ho hB.size hle
            have HO3 := Lib.hid (HO.out.only hp (by decide) ho)
            have hca3 := HCB.out _ HO3.out
            clear hp hB ho HO HCC HCB HA hca
            go_wp2_with fail
            go_roundw
            case rel => exact ⟨j + 1, x + 1, (x + 1), false, by omega, by omega, by go_num, by go_num, .inl ⟨rfl, rfl, by omega⟩, hp3, HO3, hB3⟩
            case measure => simp [intOf]; omega
          · obtain rfl : x = 200 := by omega
            have HC := splByteC p 200 false u u.toNat 0 true 3 3 wr rfl (by unfold Line.step; rw [if_neg h10]; rfl) rfl h2 hp
            have HCC := Lib.hid HC
            clear HC h10
            go_wp2_with fail
            refine HCC.out.mono ?_
            rintro e w3 ⟨rfl, hp3, ho⟩
            have hB3 := below_only hB ho hB.size hle
            have HO3 := Lib.hid (HO.out.only hp (by decide) ho)
            have hca3 := HCB.out _ HO3.out
            clear hp hB ho HO HCC HCB HA hca
            go_wp2_with fail
            go_roundw
            case rel => exact ⟨j + 1, 201, 0, true, by omega, by omega, by go_num, by go_num, .inr ⟨rfl, rfl, by decide⟩, hp3, HO3, hB3⟩
            case measure => simp [intOf]; omega
        · have hxx : n = 0 ∧ 200 < x := by rcases HA.out with ⟨h, _⟩ | ⟨_, h1, h2⟩; cases h; exact ⟨h1, h2⟩
          obtain ⟨rfl, h2⟩ := hxx
          have hlt2 : decide ((x : Int) < 200) = false := decide_eq_false (by omega)
          have heq2 : ((x : Int) == 200) = false := beq_eq_false_iff_ne.2 (by omega)
          have HC := splByteC p 0 true u u.toNat 0 true 4 4 wr rfl (by unfold Line.step; rw [if_neg h10]; rfl) rfl (by decide) hp
          have HCC := Lib.hid HC
          clear HC h10
          go_wp2_with fail
          refine HCC.out.mono ?_
          rintro e w3 ⟨rfl, hp3, ho⟩
          have hB3 := below_only hB ho hB.size hle
          have HO3 := Lib.hid (HO.out.only hp (by decide) ho)
          have hca3 := HCB.out _ HO3.out
          clear hp hB ho HO HCC HCB HA hca
          go_wp2_with fail
          go_roundw
          case rel => exact ⟨j + 1, x + 1, 0, true, by omega, by omega, by go_num, by go_num, .inr ⟨rfl, rfl, by omega⟩, hp3, HO3, hB3⟩
          case measure => simp [intOf]; omega
    · obtain rfl : j = N := by omega
      go_wp2_with fail
      refine (lineRuns_calls wr).mono ?_
      rintro e w3 ⟨rfl, hb3⟩
      go_wp2_with fail
      go_ret
      exact ⟨rfl, hB.trans (hb3.mono hB.size)⟩
end Go.Proofs.Ytepfmmphajdlfab
