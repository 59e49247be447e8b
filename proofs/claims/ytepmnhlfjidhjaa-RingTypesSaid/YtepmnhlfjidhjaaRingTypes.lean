/-
  RingTypes, its walk.
-/
import Derived.Test.YtepmnhlfjidhjaaRingThree
import Derived.Test.YtepmnhlfjidhjaaStructs
import Derived.Test.YtepmnhlfjidhjaaWithin
import Derived.Test.YtepmnhlfjidhjaaConv
import Derived.Deep.DeepCutAuto
import Derived.Deep.CutBlock
namespace Go.Proofs.Ytepmnhlfjidhjaa
open Go.ChangeShapes Go.WideShapes Go.RowKit Go.Mem Go.Law

structure Ask3 where
  kind : Int
  num : Int
def Ask3.cells (a : Ask3) : List Value := [.int .i64 a.kind, .int .i64 a.num]
def Ask3.ok (a : Ask3) : Prop := (-9223372036854775808 ≤ a.kind ∧ a.kind ≤ 9223372036854775807) ∧ (-9223372036854775808 ≤ a.num ∧ a.num ≤ 9223372036854775807)
set_option maxRecDepth 100000 in
theorem open_asks3 {H : Type} {enc : TypeId × Value → H} {W : World} {v : Value} {d : DataW H} {ps : List MemPlace} {b0 : Nat} (hv : Value.okWide Try.prog W .any b0 57 v) (h : DataW.Trod enc Try.prog W 0 (fun _ => true) true 57 v d ps) :
    ∃ (A : Option Addr) (n c : Nat) (rs : List Ask3), v = .slice A n c ∧ rs.length = n ∧ n ≤ c ∧ c ≤ maxLen ∧ RowsAt W A 2 (rs.map Ask3.cells) ∧ ∀ r ∈ rs, r.ok :=
  open_structs Ask3.cells Ask3.ok Try.underlying57 (by kernel_rfl) (by decide) (fun _ => rfl) (fun fuel cs x hf => by
    obtain ⟨a, b, rfl, w0, w1⟩ := ints2_of_trod Try.underlying70 rfl rfl Try.underlying3 Try.underlying3 (by kernel_rfl) (by kernel_rfl) (by kernel_rfl) hf
    exact ⟨⟨a, b⟩, rfl, i64_of_wf w0, i64_of_wf w1⟩) hv h
theorem keep0 {w0 w : World} {x : Addr} {v : Value} (hb : Below w0.heap.size w0 w) (h : w0.cell? x = some v) : w.cell? x = some v := keep_below hb h

theorem byteI (x : Int) : Value.int .u8 (x % 256) = B8 (UInt8.ofNat (x % 256).toNat) := by
  have : ((UInt8.ofNat (x % 256).toNat).toNat : Int) = x % 256 := by simp; omega
  unfold B8
  rw [this]
theorem conv8 (n : Int) (W : World) : (convert 24 9 (.slice (some ⟨W.heap.size, 0, none⟩) 8 8)).run Try.prog (W.alloc (.cells #[.int .u8 (n % 256), .int .u8 (n / 256 % 256), .int .u8 (n / 65536 % 256), .int .u8 (n / 16777216 % 256), .int .u8 (n / 4294967296 % 256), .int .u8 (n / 1099511627776 % 256), .int .u8 (n / 281474976710656 % 256), .int .u8 (n / 72057594037927936 % 256)] 5)) =
    .ok (.string (le8 n)) (W.alloc (.cells #[.int .u8 (n % 256), .int .u8 (n / 256 % 256), .int .u8 (n / 65536 % 256), .int .u8 (n / 16777216 % 256), .int .u8 (n / 4294967296 % 256), .int .u8 (n / 1099511627776 % 256), .int .u8 (n / 281474976710656 % 256), .int .u8 (n / 72057594037927936 % 256)] 5)) := by
  refine conv_str (P := Try.prog) _ 24 9 5 Try.underlying24 Try.underlying5 Try.underlying9 _ 8 8 (le8 n).data.toList rfl (Sl.new rfl ?_)
  unfold le8
  simp only [List.map_cons, List.map_nil, ← byteI]

set_option maxRecDepth 100000 in
set_option maxHeartbeats 6400000 in
theorem ringTypes_calls (room : Int) (A : Option Addr) (n cap : Nat) (rs : List Ask3) (w : World) (hroom : -9223372036854775808 ≤ room ∧ room ≤ 9223372036854775807) (hl : rs.length = n) (hn : n ≤ 9223372036854775807) (hs : RowsAt w A 2 (rs.map Ask3.cells)) (hok : ∀ r ∈ rs, r.ok) :
    Calls Try.prog 8 #[.int .i64 room, .slice A n cap] w fun e w' => e = .returned (.bool true) ∧ Below w.heap.size w w' := by
  subst hl
  have hr0 := within_ge room 1 40 (by decide)
  have hr1 := within_le room 1 40 (by decide)
  have HW := Lib.hid (within_calls room 1 40 w (by decide) (by decide) (by decide) hroom)
  generalize within room 1 40 = rr at hr0 hr1 HW
  obtain ⟨rr, rfl⟩ := Int.eq_ofNat_of_zero_le (show 0 ≤ rr by omega)
  have HS := Lib.hid hs
  have HOK := Lib.hid hok
  clear hroom hs hok
  go_enter Try.func8, Try.ntmps8
  go_wp2_with fail
  refine HW.out.mono ?_
  rintro e w' ⟨rfl, rfl⟩
  go_wp2_with fail
  refine (newI_ok rr w (by omega) (by omega)).mono ?_
  unfold NewRgI
  rintro e w1 ⟨pa, ga, rfl, h1, q1, q2, b1⟩
  have H1 := Lib.hid h1
  clear h1
  go_wp2_with fail
  refine (newS_ok rr w1 (by omega) (by omega)).mono ?_
  unfold NewRgS
  rintro e w2 ⟨pb, gb, rfl, h2, q3, q4, b2⟩
  have H2 := Lib.hid h2
  clear h2
  go_wp2_with fail
  refine (newP_ok rr w2 (by omega) (by omega)).mono ?_
  unfold NewRgP
  rintro e w3 ⟨pc, gc, rfl, h3, q5, q6, b3⟩
  have s1 := b1.size
  have s2 := b2.size
  have HR : Hid (R3 w w3 pa ga pb gb pc gc rr [] [] []) := (show R3 _ _ _ _ _ _ _ _ _ _ _ _ from ⟨(H1.out.below b2).below b3, H2.out.below b3, h3, (b1.trans (b2.mono b1.size)).trans (b3.mono (by omega)), ⟨q1, q2, by omega, by omega, by omega, by omega⟩⟩)
  clear H1 H2 h3 b1 b2 b3 q1 q2 q3 q4 q5 q6 s1 s2 HW
  go_wp2_with fail
  go_loopw [11] (fun i wr => ∃ (j : Nat) (xs : List Int), j ≤ rs.length ∧ j ≤ 150 ∧ i = .int .i64 j ∧ Hid (R3 w wr pa ga pb gb pc gc rr xs xs xs)) (fun i _ => 150 - (intOf i).toNat)
  case atStart => exact ⟨0, [], Nat.zero_le _, Nat.zero_le _, rfl, HR⟩
  case round =>
    clear HR
    obtain ⟨j, xs, hj, hj150, rfl, HR⟩ := hrel
    by_cases hin : j < rs.length ∧ j < 150
    · obtain ⟨hlt, h150⟩ := hin
      have hd3 : decide ((j : Int) < 150) = true := decide_eq_true (by omega)
      have i0 : (0 : Int) ≤ (j : Int) := by omega
      have i1 : (j : Int) < (rs.length : Int) := by omega
      have HO := Lib.hid (HOK.out _ (List.getElem_mem hlt))
      obtain ⟨gz, oz, ez, x0, x1⟩ := HS.out.two (List.getElem?_eq_getElem hlt) (u := .int .i64 rs[j].kind) (v := .int .i64 rs[j].num) rfl
      subst ez
      have HX0 := Lib.hid x0
      replace x1 := keep0 HR.out.bel x1
      clear x0
      generalize rs[j] = r at *
      obtain ⟨rk, rn⟩ := r
      simp only at x1 HX0
      have kc := conv8 rn
      go_upto_region 12 with fail
      have HR1 := Lib.hid (HR.out.below ((Below.refl _ _).alloc (Nat.le_refl _) (.cells #[.int .u8 (rn % 256), .int .u8 (rn / 256 % 256), .int .u8 (rn / 65536 % 256), .int .u8 (rn / 16777216 % 256), .int .u8 (rn / 4294967296 % 256), .int .u8 (rn / 1099511627776 % 256), .int .u8 (rn / 281474976710656 % 256), .int .u8 (rn / 72057594037927936 % 256)] 5)))
      clear kc x1 HR
      generalize wr.alloc (.cells #[.int .u8 (rn % 256), .int .u8 (rn / 256 % 256), .int .u8 (rn / 65536 % 256), .int .u8 (rn / 16777216 % 256), .int .u8 (rn / 4294967296 % 256), .int .u8 (rn / 1099511627776 % 256), .int .u8 (rn / 281474976710656 % 256), .int .u8 (rn / 72057594037927936 % 256)] 5) = wz at HR1 ⊢
      have x0 := keep0 HR1.out.bel HX0.out
      have HN : Hid (-9223372036854775808 ≤ rn ∧ rn ≤ 9223372036854775807) := (show _ ∧ _ from HO.out.2)
      clear HX0 HO
      go_upto_block 2 with fail
      clear x0
      go_cut [14] (fun _ wx => ∃ xs', Hid (R3 w wx pa ga pb gb pc gc rr xs' xs' xs'))
      case first =>
        by_cases k1 : rk = 1
        · subst k1
          have HA := Lib.hid (fun W (h : R3 w W pa ga pb gb pc gc rr xs xs xs) => putA3 w pa ga pb gb pc gc rr xs xs xs rn W h)
          have HB := Lib.hid (fun W (h : R3 w W pa ga pb gb pc gc rr (putI xs rr rn) xs xs) => putB3 w pa ga pb gb pc gc rr _ xs xs rn W h)
          have HC := Lib.hid (fun W (h : R3 w W pa ga pb gb pc gc rr (putI xs rr rn) (putI xs rr rn) xs) => putC3 w pa ga pb gb pc gc rr _ _ xs rn W h)
          generalize decide (xs.length < rr) = b at HA HB HC
          unfold E3 at HA HB HC
          have e1 : (b != b) = false := by cases b <;> rfl
          go_wp2_with fail
          refine (HA.out _ HR1.out).mono ?_
          rintro e wa ⟨rfl, ha⟩
          have HRa := Lib.hid ha
          clear HR1 ha HA
          go_wp2_with fail
          refine (HB.out _ HRa.out).mono ?_
          rintro e wb ⟨rfl, hb⟩
          have HRb := Lib.hid hb
          clear HRa hb HB
          go_wp2_with fail
          refine (HC.out _ HRb.out).mono ?_
          rintro e wd ⟨rfl, hc⟩
          have HRc := Lib.hid hc
          clear HRb hc HC
          go_wp2_with fail
          go_meet
          exact ⟨_, HRc⟩
        have n1 : (rk == 1) = false := beq_eq_false_iff_ne.2 k1
        by_cases k2 : rk = 2
        · subst k2
          have HA := Lib.hid (fun W (h : R3 w W pa ga pb gb pc gc rr xs xs xs) => takeA3 w pa ga pb gb pc gc rr xs xs xs W h)
          have HB := Lib.hid (fun W (h : R3 w W pa ga pb gb pc gc rr (xs.drop 1) xs xs) => takeB3 w pa ga pb gb pc gc rr _ xs xs W h)
          have HC := Lib.hid (fun W (h : R3 w W pa ga pb gb pc gc rr (xs.drop 1) (xs.drop 1) xs) => takeC3 w pa ga pb gb pc gc rr _ _ xs W h)
          rw [at3n] at HA
          rw [at3s] at HB
          generalize inI xs 0 = b at HA HB HC
          generalize atP (xs.map pr8) 0 = y at HA HB HC
          obtain ⟨y1, y2⟩ := y
          unfold E3 at HA HB HC
          unfold VQ at HC
          simp only at HA HB HC
          have e1 : (b != b) = false := by cases b <;> rfl
          have e2 : (y1 != y1) = false := by simp
          have e3 : (!(y2.toList == y2.toList)) = false := by simp
          go_wp2_with fail
          refine (HA.out _ HR1.out).mono ?_
          rintro e wa ⟨rfl, ha⟩
          have HRa := Lib.hid ha
          clear HR1 ha HA
          go_wp2_with fail
          refine (HB.out _ HRa.out).mono ?_
          rintro e wb ⟨rfl, hb⟩
          have HRb := Lib.hid hb
          clear HRa hb HB
          go_wp2_with fail
          refine (HC.out _ HRb.out).mono ?_
          rintro e wd ⟨rfl, hc⟩
          have HRc := Lib.hid (hc.below ((Below.refl _ _).alloc (Nat.le_refl _) (.cells #[.int .i64 y1, .string y2] 68)))
          clear HRb hc HC
          go_wp2_with fail
          go_meet
          exact ⟨_, HRc⟩
        have n2 : (rk == 2) = false := beq_eq_false_iff_ne.2 k2
        by_cases k4 : rk = 4
        · subst k4
          have HA := Lib.hid (fun W (h : R3 w W pa ga pb gb pc gc rr xs xs xs) => dropA3 w pa ga pb gb pc gc rr xs xs xs rn W h HN.out)
          have HB := Lib.hid (fun W (h : R3 w W pa ga pb gb pc gc rr (xs.drop (dropI xs rn)) xs xs) => dropB3 w pa ga pb gb pc gc rr _ xs xs rn W h HN.out)
          have HC := Lib.hid (fun W (h : R3 w W pa ga pb gb pc gc rr (xs.drop (dropI xs rn)) (xs.drop (dropI xs rn)) xs) => dropC3 w pa ga pb gb pc gc rr _ _ xs rn W h HN.out)
          generalize dropI xs rn = d at HA HB HC
          unfold E3 at HA HB HC
          have e1 : ((d : Int) != (d : Int)) = false := by simp
          go_wp2_with fail
          refine (HA.out _ HR1.out).mono ?_
          rintro e wa ⟨rfl, ha⟩
          have HRa := Lib.hid ha
          clear HR1 ha HA
          go_wp2_with fail
          refine (HB.out _ HRa.out).mono ?_
          rintro e wb ⟨rfl, hb⟩
          have HRb := Lib.hid hb
          clear HRa hb HB
          go_wp2_with fail
          refine (HC.out _ HRb.out).mono ?_
          rintro e wd ⟨rfl, hc⟩
          have HRc := Lib.hid hc
          clear HRb hc HC
          go_wp2_with fail
          go_meet
          exact ⟨_, HRc⟩
        · have n4 : (rk == 4) = false := beq_eq_false_iff_ne.2 k4
          go_wp2_with fail
          go_meet
          exact ⟨_, HR1⟩
      case rest =>
        clear HR1 HN
        obtain ⟨xs', HR⟩ := hcut
        have HA := Lib.hid (fun W (h : R3 w W pa ga pb gb pc gc rr xs' xs' xs') => atA3 w pa ga pb gb pc gc rr xs' xs' xs' W h 1)
        have HC := Lib.hid (fun W (h : R3 w W pa ga pb gb pc gc rr xs' xs' xs') => atC3 w pa ga pb gb pc gc rr xs' xs' xs' W h 1)
        rw [at3n] at HA
        generalize inI xs' 1 = b at HA HC
        generalize atP (xs'.map pr8) 1 = y at HA HC
        obtain ⟨y1, y2⟩ := y
        unfold E3 at HA HC
        unfold VQ at HC
        simp only at HA HC
        have LA := Lib.hid (fun W (h : R3 w W pa ga pb gb pc gc rr xs' xs' xs') => lenA3 w pa ga pb gb pc gc rr xs' xs' xs' W h)
        have LB := Lib.hid (fun W (h : R3 w W pa ga pb gb pc gc rr xs' xs' xs') => lenB3 w pa ga pb gb pc gc rr xs' xs' xs' W h)
        have LC := Lib.hid (fun W (h : R3 w W pa ga pb gb pc gc rr xs' xs' xs') => lenC3 w pa ga pb gb pc gc rr xs' xs' xs' W h)
        generalize xs'.length = L at LA LB LC
        have e0 : ((L : Int) != (L : Int)) = false := by simp
        have e1 : (b != b) = false := by cases b <;> rfl
        have e2 : (y1 != y1) = false := by simp
        go_wp2_with fail
        refine (HA.out _ HR.out).mono ?_
        rintro e wa ⟨rfl, ha⟩
        have HRa := Lib.hid ha
        clear HR ha HA
        go_wp2_with fail
        refine (HC.out _ HRa.out).mono ?_
        rintro e wd ⟨rfl, hc⟩
        have HRc := Lib.hid (hc.below ((Below.refl _ _).alloc (Nat.le_refl _) (.cells #[.int .i64 y1, .string y2] 68)))
        clear HRa hc HC
        go_wp2_with fail
        refine (LA.out _ HRc.out).mono ?_
        rintro e we ⟨rfl, rfl⟩
        go_wp2_with fail
        refine (LB.out _ HRc.out).mono ?_
        rintro e we ⟨rfl, rfl⟩
        go_wp2_with fail
        refine (LA.out _ HRc.out).mono ?_
        rintro e we ⟨rfl, rfl⟩
        go_wp2_with fail
        refine (LC.out _ HRc.out).mono ?_
        rintro e we ⟨rfl, rfl⟩
        clear LA LB LC
        go_wp2_with fail
        go_roundw
        case rel => exact ⟨j + 1, xs', by omega, by omega, by go_num, HRc⟩
        case measure => simp [intOf]; omega
    · clear HS HOK
      by_cases hlt : j < rs.length
      · have hd4 : decide ((j : Int) < 150) = false := decide_eq_false (by omega)
        clear hin
        go_wp2_with fail
        refine (ringRuns_calls wr).mono ?_
        rintro e w10 ⟨rfl, b10⟩
        go_wp2_with fail
        go_ret
        exact ⟨rfl, HR.out.bel.trans (b10.mono HR.out.bel.size)⟩
      · clear hin
        go_wp2_with fail
        refine (ringRuns_calls wr).mono ?_
        rintro e w10 ⟨rfl, b10⟩
        go_wp2_with fail
        go_ret
        exact ⟨rfl, HR.out.bel.trans (b10.mono HR.out.bel.size)⟩
end Go.Proofs.Ytepmnhlfjidhjaa
