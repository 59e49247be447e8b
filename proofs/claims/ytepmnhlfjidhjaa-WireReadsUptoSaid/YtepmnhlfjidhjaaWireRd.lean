/-
  The contract of wire.number.
-/
import Derived.Test.YtepmnhlfjidhjaaApp
import Derived.Test.YtepmnhlfjidhjaaWireD
namespace Go.Proofs.Ytepmnhlfjidhjaa
open Go.RowKit Go.Mem

theorem ret3_of {a b c a' b' c' : Int} (h1 : a = a') (h2 : b = b') (h3 : c = c') : Ending.returned (.tuple #[.int .i64 a, .int .i64 b, .int .i64 c]) = Ending.returned (.tuple #[.int .i64 a', .int .i64 b', .int .i64 c']) := by rw [h1, h2, h3]

theorem or_byte (v y : Nat) (hv : v < 72057594037927936) (hy : y < 256) : bits .or .u64 ((v : Int) * 256) (y : Int) = ((v * 256 + y : Nat) : Int) := by
  have e : (v : Int) * 256 = ((v * 256 : Nat) : Int) := by simp
  rw [e, u64_or_nat _ _ (by omega) (by omega), nat_join 8 _ _ (by omega) (by omega)]
/-- what 'number' answers, as values -/
def res3 (d : Nat × Nat × Nat) : Value := .tuple #[.int .i64 (d.1 : Int), .int .i64 (d.2.1 : Int), .int .i64 (d.2.2 : Int)]

set_option maxHeartbeats 1600000 in
theorem number_calls (A : Option Addr) (n cap : Nat) (bs : List UInt8) (a : Nat) (most : Int) (w : World) (hl : bs.length = n) (ha : a ≤ n) (hcap : n ≤ cap) (hn : n ≤ 70368744177664) (hs : Sl w A (bs.map B8)) (hm : -9223372036854775808 ≤ most ∧ most ≤ 9223372036854775807) :
    Calls Try.prog 130 #[.slice A n cap, .int .i64 (a : Int), .int .i64 most] w fun e w' => e = .returned (res3 (Wire.decU bs a most)) ∧ w = w' := by
  obtain ⟨hm1, hm2⟩ := hm
  subst hl
  by_cases h0 : a = bs.length
  · have hr : Hid (Wire.decU bs a most = (0, 0, 3)) := by show _ = _; simp [Wire.decU, Wire.dec, h0]
    have he : ((a : Int) == (bs.length : Int)) = true := by rw [h0]; simp
    clear h0
    go_enter Try.func130, Try.ntmps130
    go_wp2_with fail
    go_ret3
    exact ⟨by rw [hr.out]; rfl, rfl⟩
  · have hlt : a < bs.length := by omega
    have he : ((a : Int) == (bs.length : Int)) = false := beq_eq_false_iff_ne.2 (by omega)
    obtain ⟨b, o, rfl, hca⟩ := hs.byte hlt
    have hg : bs.getD a 0 = bs[a] := by simp [List.getD, hlt]
    generalize hx : bs[a] = x at hca hg
    have hx255 : x.toNat ≤ 255 := by have := x.toNat_lt; omega
    have HX := Lib.hid hg
    clear hx hg h0
    by_cases h8 : 8 < x.toNat
    · have hr : Hid (Wire.decU bs a most = (0, 0, 4)) := by show _ = _; unfold Wire.decU Wire.dec; rw [HX.out, if_neg (show ¬ bs.length ≤ a by omega), if_pos h8]; rfl
      go_enter Try.func130, Try.ntmps130
      go_wp2_with fail
      go_ret3
      exact ⟨by rw [hr.out]; rfl, rfl⟩
    · by_cases hsh : bs.length < a + 1 + x.toNat
      · have hr : Hid (Wire.decU bs a most = (0, 0, 3)) := by show _ = _; unfold Wire.decU Wire.dec; rw [HX.out, if_neg (show ¬ bs.length ≤ a by omega), if_neg h8, if_pos hsh]; rfl
        go_enter Try.func130, Try.ntmps130
        go_wp2_with fail
        go_ret3
        exact ⟨by rw [hr.out]; rfl, rfl⟩
      · have hac : a + 1 ≤ cap := by omega
        have hk1 : (a : Int) + 1 + (x.toNat : Int) ≤ (cap : Int) := by omega
        by_cases hx0 : x.toNat = 0
        · obtain rfl : x = 0 := UInt8.toNat.inj hx0
          by_cases hmost : most < 0
          · have hr : Hid (Wire.decU bs a most = (0, 0, 2)) := by
              show _ = _
              have hd : Wire.dec bs a = (0, a + 1, 0) := by
                unfold Wire.dec; rw [HX.out, if_neg (show ¬ bs.length ≤ a by omega), if_neg h8, if_neg hsh, if_neg (by simp [Wire.val])]; simp [Wire.val]
              unfold Wire.decU; rw [hd, if_neg (by simp), if_pos (by simpa using hmost)]
            go_enter Try.func130, Try.ntmps130
            go_wp2_with fail
            all_goals
              refine wp_loop_rounds 1 ?_
              rw [rounds_succ]
              go_wp2_with fail
              go_ret3
              exact ⟨by rw [hr.out]; rfl, rfl⟩
          · have hr : Hid (Wire.decU bs a most = (0, a + 1, 0)) := by
              show _ = _
              have hd : Wire.dec bs a = (0, a + 1, 0) := by
                unfold Wire.dec; rw [HX.out, if_neg (show ¬ bs.length ≤ a by omega), if_neg h8, if_neg hsh, if_neg (by simp [Wire.val])]; simp [Wire.val]
              unfold Wire.decU; rw [hd, if_neg (by simp), if_neg (by simpa using hmost)]
            go_enter Try.func130, Try.ntmps130
            go_wp2_with fail
            all_goals
              refine wp_loop_rounds 1 ?_
              rw [rounds_succ]
              go_wp2_with fail
              go_ret3
              exact ⟨by rw [hr.out]; rfl, rfl⟩
        · have hxp : 0 < x.toNat := by omega
          have hcne : ¬ cap = a + 1 := by omega
          have hcells : ∀ j, j < x.toNat → w.cell? ⟨b, o + (a + 1) + j, none⟩ = some (.int .u8 ((((bs.drop (a + 1)).take x.toNat).getD j 0).toNat : Int)) := fun j hj => by
            obtain ⟨b', o', e, hc⟩ := hs.byte (k := a + 1 + j) (by omega)
            obtain ⟨rfl, rfl⟩ : b = b' ∧ o = o' := by injection e with e; injection e with e1 e2; exact ⟨e1, e2⟩
            have e2 : ((bs.drop (a + 1)).take x.toNat).getD j 0 = bs[a + 1 + j]'(by omega) := by
              simp [List.getD, hj, show a + 1 + j < bs.length by omega]
            rw [e2, ← hc]; congr 2; omega
          have hll : ((bs.drop (a + 1)).take x.toNat).length = x.toNat := by rw [List.length_take, List.length_drop]; omega
          have hg1 : bs.getD (a + 1) 0 = ((bs.drop (a + 1)).take x.toNat).getD 0 0 := by
            simp [List.getD, hxp, show a + 1 < bs.length by omega]
          have HD0 : Hid (Wire.dec bs a = if ((bs.drop (a + 1)).take x.toNat).getD 0 0 = 0 ∨ 2 ^ 63 ≤ Wire.val ((bs.drop (a + 1)).take x.toNat) then (0, 0, 4) else (Wire.val ((bs.drop (a + 1)).take x.toNat), a + 1 + x.toNat, 0)) := by
            show _ = _
            unfold Wire.dec
            rw [HX.out, if_neg (show ¬ bs.length ≤ a by omega), if_neg h8, if_neg hsh, hg1]
            simp only [hxp, true_and]
          generalize (bs.drop (a + 1)).take x.toNat = l at hcells hll HD0
          have hc0 := hcells 0 hxp
          have HLL := Lib.hid hll
          have HCE := Lib.hid hcells
          clear hll hg1 hcells hx0 hs
          generalize hl0 : l.getD 0 0 = l0 at hc0 HD0
          have HL0 := Lib.hid hl0
          clear hl0
          rw [Nat.add_zero] at hc0
          go_enter Try.func130, Try.ntmps130
          go_wp2_with fail
          go_loop [10, 12, 39] (fun v y i => ∃ (j : Nat), j ≤ x.toNat ∧ i = .int .i64 j ∧ v = .int .u64 ((Wire.val (l.take j) : Nat) : Int)) (fun _ _ i => x.toNat - (intOf i).toNat)
          case atStart => exact ⟨0, Nat.zero_le _, rfl, rfl⟩
          case round =>
            obtain ⟨j, hj, rfl, rfl⟩ := hrel
            by_cases hlt2 : j < x.toNat
            · have hcj := HCE.out j hlt2
              have hjl : j < l.length := by rw [HLL.out]; exact hlt2
              have hvl : Wire.val (l.take j) < 72057594037927936 := by
                have h1 := Wire.val_lt (l.take j)
                have h2 : 256 ^ (l.take j).length ≤ 256 ^ 7 := Nat.pow_le_pow_right (by omega) (by rw [List.length_take]; omega)
                omega
              have HV : Hid (Wire.val (l.take (j + 1)) = Wire.val (l.take j) * 256 + (l.getD j 0).toNat) := by
                show _ = _
                rw [List.take_succ_eq_append_getElem hjl]
                unfold Wire.val
                rw [List.foldl_append]
                simp [List.getD, hjl]
              generalize l.getD j 0 = y at hcj HV
              generalize Wire.val (l.take j) = v at hvl HV
              have hy : y.toNat < 256 := y.toNat_lt
              have hor := Lib.hid (or_byte v y.toNat hvl hy)
              go_wp2_with fail
              go_round
              case rel => exact ⟨j + 1, by omega, by go_num, by rw [HV.out, hor.out]⟩
              case measure => simp [intOf]; omega
            · obtain rfl : j = x.toNat := by omega
              have hfull : l.take x.toNat = l := List.take_of_length_le (by rw [HLL.out]; exact Nat.le_refl _)
              rw [hfull]
              clear hfull
              have hvl64 : Wire.val l < 18446744073709551616 := by
                have h1 := Wire.val_lt l
                have h2 : 256 ^ l.length ≤ 256 ^ 8 := Nat.pow_le_pow_right (by omega) (by rw [HLL.out]; omega)
                omega
              generalize Wire.val l = v at hvl64 HD0
              have hl0n : l0.toNat < 256 := l0.toNat_lt
              by_cases hz : l0 = 0
              · subst hz
                have hr : Hid (Wire.decU bs a most = (0, 0, 4)) := by
                  show _ = _
                  have hd := HD0.out
                  rw [if_pos (.inl rfl)] at hd
                  unfold Wire.decU; rw [hd, if_pos (by decide)]
                go_wp2_with fail
                go_ret3
                exact ⟨by rw [hr.out]; rfl, rfl⟩
              · have hzn : ((l0.toNat : Int) == 0) = false := beq_eq_false_iff_ne.2 (fun h => hz (UInt8.toNat.inj (by show l0.toNat = 0; omega)))
                by_cases hbig : 9223372036854775807 < (v : Int)
                · have hr : Hid (Wire.decU bs a most = (0, 0, 4)) := by
                    show _ = _
                    have hd := HD0.out
                    rw [if_pos (.inr (by omega))] at hd
                    unfold Wire.decU; rw [hd, if_pos (by decide)]
                  go_wp2_with fail
                  go_ret3
                  exact ⟨by rw [hr.out]; rfl, rfl⟩
                · have HD1 : Hid (Wire.dec bs a = (v, a + 1 + x.toNat, 0)) := by
                    show _ = _
                    have hd := HD0.out
                    rw [if_neg (by rintro (h | h); exact hz h; omega)] at hd
                    exact hd
                  by_cases hmost : most < (v : Int)
                  · have hr : Hid (Wire.decU bs a most = (0, 0, 2)) := by
                      show _ = _
                      unfold Wire.decU; rw [HD1.out, if_neg (by simp), if_pos hmost]
                    go_wp2_with fail
                    go_ret3
                    exact ⟨by rw [hr.out]; rfl, rfl⟩
                  · have hr : Hid (Wire.decU bs a most = (v, a + 1 + x.toNat, 0)) := by
                      show _ = _
                      unfold Wire.decU; rw [HD1.out, if_neg (by simp), if_neg hmost]
                    go_wp2_with fail
                    go_ret3
                    exact ⟨by rw [hr.out]; rfl, rfl⟩
end Go.Proofs.Ytepmnhlfjidhjaa
