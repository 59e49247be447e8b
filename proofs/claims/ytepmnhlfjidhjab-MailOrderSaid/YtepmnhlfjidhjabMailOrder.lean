/-
  MailOrder, its walk.
-/
import Derived.Test.YtepmnhlfjidhjabMailRuns
import Derived.Test.YtepmnhlfjidhjabMailA
import Derived.Test.YtepmnhlfjidhjabMailA2
import Derived.Test.YtepmnhlfjidhjabWithin
import Derived.Test.YtepmnhlfjidhjabI64
namespace Go.Proofs.Ytepmnhlfjidhjab
open Go.RowKit Go.Mem Go.Conc

theorem intAt {w : World} {A : Option Addr} {zs : List Int} (h : Sl w A (zs.map I64)) {k : Nat} (hk : k < zs.length) : ∃ b o, A = some ⟨b, o, none⟩ ∧ w.cell? ⟨b, o + k, none⟩ = some (.int .i64 zs[k]) := by
  obtain ⟨b, o, e, hc⟩ := h.at_ (k := k) (by simpa using hk)
  rw [List.getElem_map] at hc
  exact ⟨b, o, e, hc⟩
/-- the pairs numbered n .. s - 1, in their order -/
def Qu (n s : Nat) (buf : List Value) : Prop := n + buf.length = s ∧ ∀ (i : Nat) (v : Value), buf[i]? = some v → ∃ y : Int, v = .agg #[.int .i64 ((n + i : Nat) : Int), .int .i64 y]
theorem Qu.nil (n : Nat) : Qu n n [] := ⟨by simp, fun i v h => by simp at h⟩
theorem Qu.push {n s : Nat} {buf : List Value} (h : Qu n s buf) (y : Int) : Qu n (s + 1) (buf ++ [.agg #[.int .i64 (s : Int), .int .i64 y]]) := by
  refine ⟨by rw [List.length_append, ← h.1]; simp; omega, fun i v hv => ?_⟩
  rcases Nat.lt_or_ge i buf.length with hl | hl
  · rw [List.getElem?_append_left hl] at hv
    exact h.2 i v hv
  · rw [List.getElem?_append_right hl] at hv
    have h1 : i - buf.length = 0 := by
      have := (List.getElem?_eq_some_iff.1 hv).1
      simp at this; omega
    rw [h1] at hv
    simp at hv
    exact ⟨y, by rw [← hv, ← h.1, show i = buf.length by omega]⟩
theorem Qu.pop {n s : Nat} {v : Value} {buf : List Value} (h : Qu n s (v :: buf)) : ∃ y : Int, v = .agg #[.int .i64 (n : Int), .int .i64 y] ∧ Qu (n + 1) s buf := by
  obtain ⟨y, hy⟩ := h.2 0 v rfl
  refine ⟨y, hy, by have := h.1; simp at this; omega, fun i u hu => ?_⟩
  obtain ⟨z, hz⟩ := h.2 (i + 1) u (by simpa using hu)
  exact ⟨z, by rw [hz, show n + (i + 1) = n + 1 + i by omega]⟩

set_option maxRecDepth 100000 in
set_option maxHeartbeats 12800000 in
theorem mailOrder_calls (A E : Option Addr) (n1 n2 k1 k2 : Nat) (zs ts : List Int) (cz : Int) (w : World) (hl : zs.length = n1) (hn : n1 ≤ 9223372036854775807) (hs : Sl w A (zs.map I64)) (hz : ∀ z ∈ zs, -9223372036854775808 ≤ z ∧ z ≤ 9223372036854775807) (hl2 : ts.length = n2) (hn2 : n2 ≤ 9223372036854775807) (hs2 : Sl w E (ts.map I64)) (hz2 : ∀ z ∈ ts, -9223372036854775808 ≤ z ∧ z ≤ 9223372036854775807) (hcz : -9223372036854775808 ≤ cz ∧ cz ≤ 9223372036854775807) :
    Calls Try.prog 5 #[.slice A n1 k1, .slice E n2 k2, .int .i64 cz] w fun e w' => e = .returned (.bool true) ∧ Below w.heap.size w w' := by
  subst hl hl2
  have HN := Lib.hid (newA_ok 9 (by decide) (by decide) w)
  unfold NewA at HN
  have HZ := Lib.hid hz
  have HZ2 := Lib.hid hz2
  have HS := Lib.hid hs
  have HS2 := Lib.hid hs2
  have hw0 := within_ge cz 0 300 (by decide)
  have hw1 := within_le cz 0 300 (by decide)
  have HW := Lib.hid (fun W : World => within_calls cz 0 300 W (by decide) (by decide) (by decide) hcz)
  clear hz hz2 hs hs2 hcz
  go_enter Try.func5, Try.ntmps5
  go_wp2_with fail
  refine HN.out.mono ?_
  rintro e w1 ⟨p, c, rfl, bx, lp, lc, bb⟩
  have HB := Lib.hid bx
  have hpc := bx.ne
  have B := bb
  clear HN bx bb
  go_wp2_with fail
  refine (HW.out w1).mono ?_
  rintro e w2 ⟨rfl, rfl⟩
  generalize within cz 0 300 = kk at hw0 hw1
  obtain ⟨kk, rfl⟩ := Int.eq_ofNat_of_zero_le hw0
  clear HW hw0
  go_wp2_with fail
  go_loopw [9, 10, 11, 12, 13, 14] (fun s9 s10 s11 _ _ _ wr => ∃ (i nx sn : Nat) (buf : List Value) (cl : Bool), i ≤ zs.length ∧ i ≤ 250 ∧ s11 = .int .i64 i ∧ s9 = .int .i64 nx ∧ s10 = .int .i64 sn ∧ sn ≤ i ∧ nx ≤ sn ∧ Hid (cl = decide (kk < i)) ∧ Hid (BoxAt wr 82 p c 9 buf cl) ∧ Hid (Qu nx sn buf) ∧ Below w.heap.size w wr) (fun _ _ s _ _ _ _ => 250 - (intOf s).toNat)
  case atStart => exact ⟨0, 0, 0, [], false, Nat.zero_le _, Nat.zero_le _, rfl, rfl, rfl, Nat.le_refl _, Nat.le_refl _, (show _ = _ from rfl), HB, (show Qu _ _ _ from Qu.nil 0), B⟩
  case round =>
    clear HB B
    obtain ⟨i, nx, sn, buf, cl, hi, hi2, rfl, rfl, rfl, hsn, hnx, HCL, HB, HQ, B⟩ := hrel
    by_cases hin : i < zs.length ∧ i < 250
    · obtain ⟨hlt, h250⟩ := hin
      have hd3 : decide ((i : Int) < 250) = true := decide_eq_true (by omega)
      have i0 : (0 : Int) ≤ (i : Int) := by omega
      have i1 : (i : Int) < (zs.length : Int) := by omega
      by_cases hik : i = kk
      · subst hik
        have hb1 : ((i : Int) == (i : Int)) = true := by simp
        have HC := Lib.hid (closeA_calls p c 9 buf cl wr HB.out)
        go_wp2_with fail
        refine HC.out.mono ?_
        rintro e w4 ⟨rfl, bx, fx⟩
        replace B := below_fr B fx B.size (by simp; omega)
        replace HB := Lib.hid bx
        clear HC bx fx HCL
        have HCL : Hid (true = decide (i < i + 1)) := (show _ = _ from (decide_eq_true (by omega)).symm)
        obtain ⟨gz, oz, ez, hcz⟩ := intAt (HS.out.below B) hlt
        subst ez
        generalize zs[i] = zv at hcz
        have HC := Lib.hid (sendA_shut p c 9 buf (sn : Int) zv w4 HB.out)
        go_wp2_with fail
        refine HC.out.mono ?_
        rintro e w5 ⟨rfl, bx, fx⟩
        replace B := below_fr B fx B.size (by simp; omega)
        replace HB := Lib.hid bx
        clear HC bx fx hcz
        by_cases ht : i < ts.length
        · obtain ⟨gt, ot, et, hct⟩ := intAt (HS2.out.below B) ht
          subst et
          have hzt := HZ2.out _ (List.getElem_mem ht)
          have t1 : (i : Int) < (ts.length : Int) := by omega
          generalize ts[i] = tv at hct hzt
          have HWT := Lib.hid (fun W : World => within_calls tv 0 3 W (by decide) (by decide) (by decide) hzt)
          have ww0 := within_ge tv 0 3 (by decide)
          have ww1 := within_le tv 0 3 (by decide)
          go_wp2_with fail
          refine (HWT.out _).mono ?_
          rintro e w9 ⟨rfl, hw9⟩
          obtain rfl := hw9
          generalize within tv 0 3 = mm at ww0 ww1
          obtain ⟨mm, rfl⟩ := Int.eq_ofNat_of_zero_le ww0
          clear HWT ww0 hct hzt
          go_wp2_with fail
          go_loopw [9, 12, 13, 14] (fun s9 s12 _ _ wr => ∃ (m nx : Nat) (buf : List Value), m ≤ 3 ∧ s12 = .int .i64 m ∧ s9 = .int .i64 nx ∧ nx ≤ sn ∧ Hid (BoxAt wr 82 p c 9 buf true) ∧ Hid (Qu nx (sn) buf) ∧ Below w.heap.size w wr) (fun _ s _ _ _ => (intOf s).toNat)
          case atStart => exact ⟨mm, nx, buf, by omega, rfl, rfl, by omega, HB, HQ, B⟩
          case round =>
            clear HB HQ B hnx
            obtain ⟨m, nx, buf, hm, rfl, rfl, hnx, HB, HQ, B⟩ := hrel
            by_cases hm0 : 0 < m
            · obtain ⟨m, rfl⟩ : ∃ m', m = m' + 1 := ⟨m - 1, by omega⟩
              have m1 : (0 : Int) < (m : Int) + 1 := by omega
              cases buf with
              | nil =>
                have HC := Lib.hid (recvA_none p c 9 true wr HB.out)
                go_wp2_with fail
                refine HC.out.mono ?_
                rintro e w10 ⟨rfl, bx, fx⟩
                have ba := (Below.refl w10.heap.size w10).alloc (Nat.le_refl _) (.cells #[.int .i64 0, .int .i64 0] 53)
                have HB2 := Lib.hid (bx.below ba)
                have B2 := stepB (below_fr B fx B.size (by simp; omega)) ba
                clear HC bx fx HB B ba
                go_wp2_with fail
                go_roundw
                case rel => exact ⟨m, nx, [], by omega, by go_num, rfl, hnx, HB2, HQ, B2⟩
                case measure => simp [intOf]
              | cons v rest =>
                obtain ⟨y, rfl, hq⟩ := HQ.out.pop
                have hql := hq.1
                have HC := Lib.hid (recvA_some p c 9 rest (nx : Int) y true wr HB.out)
                have hne : ((nx : Int) != (nx : Int)) = false := by simp
                go_wp2_with fail
                refine HC.out.mono ?_
                rintro e w10 ⟨rfl, bx, fx⟩
                have hbl := Blk.new w10 53 #[.int .i64 (nx : Int), .int .i64 y]
                have x0 := hbl.cell 0
                simp only [List.getElem?_cons_zero] at x0
                have ba := (Below.refl w10.heap.size w10).alloc (Nat.le_refl _) (.cells #[.int .i64 (nx : Int), .int .i64 y] 53)
                have HB2 := Lib.hid (bx.below ba)
                have HQ2 := Lib.hid hq
                have B2 := stepB (below_fr B fx B.size (by simp; omega)) ba
                clear HC bx fx HB B ba hbl hq HQ
                go_wp2_with fail
                go_roundw
                case rel => exact ⟨m, nx + 1, rest, by omega, by go_num, by go_num, by omega, HB2, HQ2, B2⟩
                case measure => simp [intOf]
            · obtain rfl : m = 0 := by omega
              go_wp2_with fail
              go_roundw
              case rel => exact ⟨i + 1, nx, sn, buf, true, by omega, by omega, by go_num, rfl, rfl, by omega, by omega, HCL, HB, HQ, B⟩
              case measure => simp [intOf]; omega
        · have hdt : decide ((i : Int) < (ts.length : Int)) = false := decide_eq_false (by omega)
          obtain ⟨mm, hmm⟩ : ∃ mm : Nat, mm = 0 := ⟨0, rfl⟩
          have ww1 : (mm : Int) ≤ 3 := by omega
          go_wp2_with fail
          go_loopw [9, 12, 13, 14] (fun s9 s12 _ _ wr => ∃ (m nx : Nat) (buf : List Value), m ≤ 3 ∧ s12 = .int .i64 m ∧ s9 = .int .i64 nx ∧ nx ≤ sn ∧ Hid (BoxAt wr 82 p c 9 buf true) ∧ Hid (Qu nx (sn) buf) ∧ Below w.heap.size w wr) (fun _ s _ _ _ => (intOf s).toNat)
          case atStart => exact ⟨0, nx, buf, by omega, rfl, rfl, by omega, HB, HQ, B⟩
          case round =>
            clear HB HQ B hnx
            obtain ⟨m, nx, buf, hm, rfl, rfl, hnx, HB, HQ, B⟩ := hrel
            by_cases hm0 : 0 < m
            · obtain ⟨m, rfl⟩ : ∃ m', m = m' + 1 := ⟨m - 1, by omega⟩
              have m1 : (0 : Int) < (m : Int) + 1 := by omega
              cases buf with
              | nil =>
                have HC := Lib.hid (recvA_none p c 9 true wr HB.out)
                go_wp2_with fail
                refine HC.out.mono ?_
                rintro e w10 ⟨rfl, bx, fx⟩
                have ba := (Below.refl w10.heap.size w10).alloc (Nat.le_refl _) (.cells #[.int .i64 0, .int .i64 0] 53)
                have HB2 := Lib.hid (bx.below ba)
                have B2 := stepB (below_fr B fx B.size (by simp; omega)) ba
                clear HC bx fx HB B ba
                go_wp2_with fail
                go_roundw
                case rel => exact ⟨m, nx, [], by omega, by go_num, rfl, hnx, HB2, HQ, B2⟩
                case measure => simp [intOf]
              | cons v rest =>
                obtain ⟨y, rfl, hq⟩ := HQ.out.pop
                have hql := hq.1
                have HC := Lib.hid (recvA_some p c 9 rest (nx : Int) y true wr HB.out)
                have hne : ((nx : Int) != (nx : Int)) = false := by simp
                go_wp2_with fail
                refine HC.out.mono ?_
                rintro e w10 ⟨rfl, bx, fx⟩
                have hbl := Blk.new w10 53 #[.int .i64 (nx : Int), .int .i64 y]
                have x0 := hbl.cell 0
                simp only [List.getElem?_cons_zero] at x0
                have ba := (Below.refl w10.heap.size w10).alloc (Nat.le_refl _) (.cells #[.int .i64 (nx : Int), .int .i64 y] 53)
                have HB2 := Lib.hid (bx.below ba)
                have HQ2 := Lib.hid hq
                have B2 := stepB (below_fr B fx B.size (by simp; omega)) ba
                clear HC bx fx HB B ba hbl hq HQ
                go_wp2_with fail
                go_roundw
                case rel => exact ⟨m, nx + 1, rest, by omega, by go_num, by go_num, by omega, HB2, HQ2, B2⟩
                case measure => simp [intOf]
            · obtain rfl : m = 0 := by omega
              go_wp2_with fail
              go_roundw
              case rel => exact ⟨i + 1, nx, sn, buf, true, by omega, by omega, by go_num, rfl, rfl, by omega, by omega, HCL, HB, HQ, B⟩
              case measure => simp [intOf]; omega
      · have hb1 : ((i : Int) == (kk : Int)) = false := by rw [beq_eq_false_iff_ne]; omega
        cases cl
        · have hik2 : i < kk := by have h := HCL.out; have h2 := of_decide_eq_false h.symm; omega
          replace HCL : Hid (false = decide (kk < i + 1)) := (show _ = _ from (decide_eq_false (by omega)).symm)
          by_cases hroom : buf.length < 9
          · have hge : decide (kk ≤ i) = false := decide_eq_false (by omega)
            obtain ⟨gz, oz, ez, hcz⟩ := intAt (HS.out.below B) hlt
            subst ez
            generalize zs[i] = zv at hcz
            have HC := Lib.hid (sendA_room p c 9 buf (sn : Int) zv wr HB.out hroom)
            go_wp2_with fail
            refine HC.out.mono ?_
            rintro e w5 ⟨rfl, bx, fx⟩
            replace B := below_fr B fx B.size (by simp; omega)
            replace HB := Lib.hid bx
            clear HC bx fx hcz
            replace HQ := Lib.hid (HQ.out.push zv)
            generalize buf ++ [.agg #[.int .i64 (sn : Int), .int .i64 zv]] = buf at *
            have HC := Lib.hid (closedA_calls p c 9 buf false w5 HB.out)
            go_wp2_with fail
            refine HC.out.mono ?_
            rintro e w6 ⟨rfl, hw6⟩
            obtain rfl := hw6.symm
            clear HC hw6 hroom
            by_cases ht : i < ts.length
            · obtain ⟨gt, ot, et, hct⟩ := intAt (HS2.out.below B) ht
              subst et
              have hzt := HZ2.out _ (List.getElem_mem ht)
              have t1 : (i : Int) < (ts.length : Int) := by omega
              generalize ts[i] = tv at hct hzt
              have HWT := Lib.hid (fun W : World => within_calls tv 0 3 W (by decide) (by decide) (by decide) hzt)
              have ww0 := within_ge tv 0 3 (by decide)
              have ww1 := within_le tv 0 3 (by decide)
              go_wp2_with fail
              refine (HWT.out _).mono ?_
              rintro e w9 ⟨rfl, hw9⟩
              obtain rfl := hw9
              generalize within tv 0 3 = mm at ww0 ww1
              obtain ⟨mm, rfl⟩ := Int.eq_ofNat_of_zero_le ww0
              clear HWT ww0 hct hzt
              go_wp2_with fail
              go_loopw [9, 12, 13, 14] (fun s9 s12 _ _ wr => ∃ (m nx : Nat) (buf : List Value), m ≤ 3 ∧ s12 = .int .i64 m ∧ s9 = .int .i64 nx ∧ nx ≤ (sn + 1) ∧ Hid (BoxAt wr 82 p c 9 buf false) ∧ Hid (Qu nx ((sn + 1)) buf) ∧ Below w.heap.size w wr) (fun _ s _ _ _ => (intOf s).toNat)
              case atStart => exact ⟨mm, nx, buf, by omega, rfl, rfl, by omega, HB, HQ, B⟩
              case round =>
                clear HB HQ B hnx
                obtain ⟨m, nx, buf, hm, rfl, rfl, hnx, HB, HQ, B⟩ := hrel
                by_cases hm0 : 0 < m
                · obtain ⟨m, rfl⟩ : ∃ m', m = m' + 1 := ⟨m - 1, by omega⟩
                  have m1 : (0 : Int) < (m : Int) + 1 := by omega
                  cases buf with
                  | nil =>
                    have HC := Lib.hid (recvA_none p c 9 false wr HB.out)
                    go_wp2_with fail
                    refine HC.out.mono ?_
                    rintro e w10 ⟨rfl, bx, fx⟩
                    have ba := (Below.refl w10.heap.size w10).alloc (Nat.le_refl _) (.cells #[.int .i64 0, .int .i64 0] 53)
                    have HB2 := Lib.hid (bx.below ba)
                    have B2 := stepB (below_fr B fx B.size (by simp; omega)) ba
                    clear HC bx fx HB B ba
                    go_wp2_with fail
                    go_roundw
                    case rel => exact ⟨m, nx, [], by omega, by go_num, rfl, hnx, HB2, HQ, B2⟩
                    case measure => simp [intOf]
                  | cons v rest =>
                    obtain ⟨y, rfl, hq⟩ := HQ.out.pop
                    have hql := hq.1
                    have HC := Lib.hid (recvA_some p c 9 rest (nx : Int) y false wr HB.out)
                    have hne : ((nx : Int) != (nx : Int)) = false := by simp
                    go_wp2_with fail
                    refine HC.out.mono ?_
                    rintro e w10 ⟨rfl, bx, fx⟩
                    have hbl := Blk.new w10 53 #[.int .i64 (nx : Int), .int .i64 y]
                    have x0 := hbl.cell 0
                    simp only [List.getElem?_cons_zero] at x0
                    have ba := (Below.refl w10.heap.size w10).alloc (Nat.le_refl _) (.cells #[.int .i64 (nx : Int), .int .i64 y] 53)
                    have HB2 := Lib.hid (bx.below ba)
                    have HQ2 := Lib.hid hq
                    have B2 := stepB (below_fr B fx B.size (by simp; omega)) ba
                    clear HC bx fx HB B ba hbl hq HQ
                    go_wp2_with fail
                    go_roundw
                    case rel => exact ⟨m, nx + 1, rest, by omega, by go_num, by go_num, by omega, HB2, HQ2, B2⟩
                    case measure => simp [intOf]
                · obtain rfl : m = 0 := by omega
                  go_wp2_with fail
                  go_roundw
                  case rel => exact ⟨i + 1, nx, (sn + 1), buf, false, by omega, by omega, by go_num, rfl, by go_num, by omega, by omega, HCL, HB, HQ, B⟩
                  case measure => simp [intOf]; omega
            · have hdt : decide ((i : Int) < (ts.length : Int)) = false := decide_eq_false (by omega)
              obtain ⟨mm, hmm⟩ : ∃ mm : Nat, mm = 0 := ⟨0, rfl⟩
              have ww1 : (mm : Int) ≤ 3 := by omega
              go_wp2_with fail
              go_loopw [9, 12, 13, 14] (fun s9 s12 _ _ wr => ∃ (m nx : Nat) (buf : List Value), m ≤ 3 ∧ s12 = .int .i64 m ∧ s9 = .int .i64 nx ∧ nx ≤ (sn + 1) ∧ Hid (BoxAt wr 82 p c 9 buf false) ∧ Hid (Qu nx ((sn + 1)) buf) ∧ Below w.heap.size w wr) (fun _ s _ _ _ => (intOf s).toNat)
              case atStart => exact ⟨0, nx, buf, by omega, rfl, rfl, by omega, HB, HQ, B⟩
              case round =>
                clear HB HQ B hnx
                obtain ⟨m, nx, buf, hm, rfl, rfl, hnx, HB, HQ, B⟩ := hrel
                by_cases hm0 : 0 < m
                · obtain ⟨m, rfl⟩ : ∃ m', m = m' + 1 := ⟨m - 1, by omega⟩
                  have m1 : (0 : Int) < (m : Int) + 1 := by omega
                  cases buf with
                  | nil =>
                    have HC := Lib.hid (recvA_none p c 9 false wr HB.out)
                    go_wp2_with fail
                    refine HC.out.mono ?_
                    rintro e w10 ⟨rfl, bx, fx⟩
                    have ba := (Below.refl w10.heap.size w10).alloc (Nat.le_refl _) (.cells #[.int .i64 0, .int .i64 0] 53)
                    have HB2 := Lib.hid (bx.below ba)
                    have B2 := stepB (below_fr B fx B.size (by simp; omega)) ba
                    clear HC bx fx HB B ba
                    go_wp2_with fail
                    go_roundw
                    case rel => exact ⟨m, nx, [], by omega, by go_num, rfl, hnx, HB2, HQ, B2⟩
                    case measure => simp [intOf]
                  | cons v rest =>
                    obtain ⟨y, rfl, hq⟩ := HQ.out.pop
                    have hql := hq.1
                    have HC := Lib.hid (recvA_some p c 9 rest (nx : Int) y false wr HB.out)
                    have hne : ((nx : Int) != (nx : Int)) = false := by simp
                    go_wp2_with fail
                    refine HC.out.mono ?_
                    rintro e w10 ⟨rfl, bx, fx⟩
                    have hbl := Blk.new w10 53 #[.int .i64 (nx : Int), .int .i64 y]
                    have x0 := hbl.cell 0
                    simp only [List.getElem?_cons_zero] at x0
                    have ba := (Below.refl w10.heap.size w10).alloc (Nat.le_refl _) (.cells #[.int .i64 (nx : Int), .int .i64 y] 53)
                    have HB2 := Lib.hid (bx.below ba)
                    have HQ2 := Lib.hid hq
                    have B2 := stepB (below_fr B fx B.size (by simp; omega)) ba
                    clear HC bx fx HB B ba hbl hq HQ
                    go_wp2_with fail
                    go_roundw
                    case rel => exact ⟨m, nx + 1, rest, by omega, by go_num, by go_num, by omega, HB2, HQ2, B2⟩
                    case measure => simp [intOf]
                · obtain rfl : m = 0 := by omega
                  go_wp2_with fail
                  go_roundw
                  case rel => exact ⟨i + 1, nx, (sn + 1), buf, false, by omega, by omega, by go_num, rfl, by go_num, by omega, by omega, HCL, HB, HQ, B⟩
                  case measure => simp [intOf]; omega
          · obtain ⟨gz, oz, ez, hcz⟩ := intAt (HS.out.below B) hlt
            subst ez
            generalize zs[i] = zv at hcz
            have HC := Lib.hid (sendA_full p c 9 buf (sn : Int) zv wr HB.out (by omega))
            go_wp2_with fail
            refine HC.out.mono ?_
            rintro e w5 ⟨rfl, bx, fx⟩
            replace B := below_fr B fx B.size (by simp; omega)
            replace HB := Lib.hid bx
            clear HC bx fx hcz
            clear hroom
            by_cases ht : i < ts.length
            · obtain ⟨gt, ot, et, hct⟩ := intAt (HS2.out.below B) ht
              subst et
              have hzt := HZ2.out _ (List.getElem_mem ht)
              have t1 : (i : Int) < (ts.length : Int) := by omega
              generalize ts[i] = tv at hct hzt
              have HWT := Lib.hid (fun W : World => within_calls tv 0 3 W (by decide) (by decide) (by decide) hzt)
              have ww0 := within_ge tv 0 3 (by decide)
              have ww1 := within_le tv 0 3 (by decide)
              go_wp2_with fail
              refine (HWT.out _).mono ?_
              rintro e w9 ⟨rfl, hw9⟩
              obtain rfl := hw9
              generalize within tv 0 3 = mm at ww0 ww1
              obtain ⟨mm, rfl⟩ := Int.eq_ofNat_of_zero_le ww0
              clear HWT ww0 hct hzt
              go_wp2_with fail
              go_loopw [9, 12, 13, 14] (fun s9 s12 _ _ wr => ∃ (m nx : Nat) (buf : List Value), m ≤ 3 ∧ s12 = .int .i64 m ∧ s9 = .int .i64 nx ∧ nx ≤ sn ∧ Hid (BoxAt wr 82 p c 9 buf false) ∧ Hid (Qu nx (sn) buf) ∧ Below w.heap.size w wr) (fun _ s _ _ _ => (intOf s).toNat)
              case atStart => exact ⟨mm, nx, buf, by omega, rfl, rfl, by omega, HB, HQ, B⟩
              case round =>
                clear HB HQ B hnx
                obtain ⟨m, nx, buf, hm, rfl, rfl, hnx, HB, HQ, B⟩ := hrel
                by_cases hm0 : 0 < m
                · obtain ⟨m, rfl⟩ : ∃ m', m = m' + 1 := ⟨m - 1, by omega⟩
                  have m1 : (0 : Int) < (m : Int) + 1 := by omega
                  cases buf with
                  | nil =>
                    have HC := Lib.hid (recvA_none p c 9 false wr HB.out)
                    go_wp2_with fail
                    refine HC.out.mono ?_
                    rintro e w10 ⟨rfl, bx, fx⟩
                    have ba := (Below.refl w10.heap.size w10).alloc (Nat.le_refl _) (.cells #[.int .i64 0, .int .i64 0] 53)
                    have HB2 := Lib.hid (bx.below ba)
                    have B2 := stepB (below_fr B fx B.size (by simp; omega)) ba
                    clear HC bx fx HB B ba
                    go_wp2_with fail
                    go_roundw
                    case rel => exact ⟨m, nx, [], by omega, by go_num, rfl, hnx, HB2, HQ, B2⟩
                    case measure => simp [intOf]
                  | cons v rest =>
                    obtain ⟨y, rfl, hq⟩ := HQ.out.pop
                    have hql := hq.1
                    have HC := Lib.hid (recvA_some p c 9 rest (nx : Int) y false wr HB.out)
                    have hne : ((nx : Int) != (nx : Int)) = false := by simp
                    go_wp2_with fail
                    refine HC.out.mono ?_
                    rintro e w10 ⟨rfl, bx, fx⟩
                    have hbl := Blk.new w10 53 #[.int .i64 (nx : Int), .int .i64 y]
                    have x0 := hbl.cell 0
                    simp only [List.getElem?_cons_zero] at x0
                    have ba := (Below.refl w10.heap.size w10).alloc (Nat.le_refl _) (.cells #[.int .i64 (nx : Int), .int .i64 y] 53)
                    have HB2 := Lib.hid (bx.below ba)
                    have HQ2 := Lib.hid hq
                    have B2 := stepB (below_fr B fx B.size (by simp; omega)) ba
                    clear HC bx fx HB B ba hbl hq HQ
                    go_wp2_with fail
                    go_roundw
                    case rel => exact ⟨m, nx + 1, rest, by omega, by go_num, by go_num, by omega, HB2, HQ2, B2⟩
                    case measure => simp [intOf]
                · obtain rfl : m = 0 := by omega
                  go_wp2_with fail
                  go_roundw
                  case rel => exact ⟨i + 1, nx, sn, buf, false, by omega, by omega, by go_num, rfl, rfl, by omega, by omega, HCL, HB, HQ, B⟩
                  case measure => simp [intOf]; omega
            · have hdt : decide ((i : Int) < (ts.length : Int)) = false := decide_eq_false (by omega)
              obtain ⟨mm, hmm⟩ : ∃ mm : Nat, mm = 0 := ⟨0, rfl⟩
              have ww1 : (mm : Int) ≤ 3 := by omega
              go_wp2_with fail
              go_loopw [9, 12, 13, 14] (fun s9 s12 _ _ wr => ∃ (m nx : Nat) (buf : List Value), m ≤ 3 ∧ s12 = .int .i64 m ∧ s9 = .int .i64 nx ∧ nx ≤ sn ∧ Hid (BoxAt wr 82 p c 9 buf false) ∧ Hid (Qu nx (sn) buf) ∧ Below w.heap.size w wr) (fun _ s _ _ _ => (intOf s).toNat)
              case atStart => exact ⟨0, nx, buf, by omega, rfl, rfl, by omega, HB, HQ, B⟩
              case round =>
                clear HB HQ B hnx
                obtain ⟨m, nx, buf, hm, rfl, rfl, hnx, HB, HQ, B⟩ := hrel
                by_cases hm0 : 0 < m
                · obtain ⟨m, rfl⟩ : ∃ m', m = m' + 1 := ⟨m - 1, by omega⟩
                  have m1 : (0 : Int) < (m : Int) + 1 := by omega
                  cases buf with
                  | nil =>
                    have HC := Lib.hid (recvA_none p c 9 false wr HB.out)
                    go_wp2_with fail
                    refine HC.out.mono ?_
                    rintro e w10 ⟨rfl, bx, fx⟩
                    have ba := (Below.refl w10.heap.size w10).alloc (Nat.le_refl _) (.cells #[.int .i64 0, .int .i64 0] 53)
                    have HB2 := Lib.hid (bx.below ba)
                    have B2 := stepB (below_fr B fx B.size (by simp; omega)) ba
                    clear HC bx fx HB B ba
                    go_wp2_with fail
                    go_roundw
                    case rel => exact ⟨m, nx, [], by omega, by go_num, rfl, hnx, HB2, HQ, B2⟩
                    case measure => simp [intOf]
                  | cons v rest =>
                    obtain ⟨y, rfl, hq⟩ := HQ.out.pop
                    have hql := hq.1
                    have HC := Lib.hid (recvA_some p c 9 rest (nx : Int) y false wr HB.out)
                    have hne : ((nx : Int) != (nx : Int)) = false := by simp
                    go_wp2_with fail
                    refine HC.out.mono ?_
                    rintro e w10 ⟨rfl, bx, fx⟩
                    have hbl := Blk.new w10 53 #[.int .i64 (nx : Int), .int .i64 y]
                    have x0 := hbl.cell 0
                    simp only [List.getElem?_cons_zero] at x0
                    have ba := (Below.refl w10.heap.size w10).alloc (Nat.le_refl _) (.cells #[.int .i64 (nx : Int), .int .i64 y] 53)
                    have HB2 := Lib.hid (bx.below ba)
                    have HQ2 := Lib.hid hq
                    have B2 := stepB (below_fr B fx B.size (by simp; omega)) ba
                    clear HC bx fx HB B ba hbl hq HQ
                    go_wp2_with fail
                    go_roundw
                    case rel => exact ⟨m, nx + 1, rest, by omega, by go_num, by go_num, by omega, HB2, HQ2, B2⟩
                    case measure => simp [intOf]
                · obtain rfl : m = 0 := by omega
                  go_wp2_with fail
                  go_roundw
                  case rel => exact ⟨i + 1, nx, sn, buf, false, by omega, by omega, by go_num, rfl, rfl, by omega, by omega, HCL, HB, HQ, B⟩
                  case measure => simp [intOf]; omega
        · have hik2 : kk < i := by have h := HCL.out; exact of_decide_eq_true h.symm
          replace HCL : Hid (true = decide (kk < i + 1)) := (show _ = _ from (decide_eq_true (by omega)).symm)
          obtain ⟨gz, oz, ez, hcz⟩ := intAt (HS.out.below B) hlt
          subst ez
          generalize zs[i] = zv at hcz
          have HC := Lib.hid (sendA_shut p c 9 buf (sn : Int) zv wr HB.out)
          go_wp2_with fail
          refine HC.out.mono ?_
          rintro e w5 ⟨rfl, bx, fx⟩
          replace B := below_fr B fx B.size (by simp; omega)
          replace HB := Lib.hid bx
          clear HC bx fx hcz
          by_cases ht : i < ts.length
          · obtain ⟨gt, ot, et, hct⟩ := intAt (HS2.out.below B) ht
            subst et
            have hzt := HZ2.out _ (List.getElem_mem ht)
            have t1 : (i : Int) < (ts.length : Int) := by omega
            generalize ts[i] = tv at hct hzt
            have HWT := Lib.hid (fun W : World => within_calls tv 0 3 W (by decide) (by decide) (by decide) hzt)
            have ww0 := within_ge tv 0 3 (by decide)
            have ww1 := within_le tv 0 3 (by decide)
            go_wp2_with fail
            refine (HWT.out _).mono ?_
            rintro e w9 ⟨rfl, hw9⟩
            obtain rfl := hw9
            generalize within tv 0 3 = mm at ww0 ww1
            obtain ⟨mm, rfl⟩ := Int.eq_ofNat_of_zero_le ww0
            clear HWT ww0 hct hzt
            go_wp2_with fail
            go_loopw [9, 12, 13, 14] (fun s9 s12 _ _ wr => ∃ (m nx : Nat) (buf : List Value), m ≤ 3 ∧ s12 = .int .i64 m ∧ s9 = .int .i64 nx ∧ nx ≤ sn ∧ Hid (BoxAt wr 82 p c 9 buf true) ∧ Hid (Qu nx (sn) buf) ∧ Below w.heap.size w wr) (fun _ s _ _ _ => (intOf s).toNat)
            case atStart => exact ⟨mm, nx, buf, by omega, rfl, rfl, by omega, HB, HQ, B⟩
            case round =>
              clear HB HQ B hnx
              obtain ⟨m, nx, buf, hm, rfl, rfl, hnx, HB, HQ, B⟩ := hrel
              by_cases hm0 : 0 < m
              · obtain ⟨m, rfl⟩ : ∃ m', m = m' + 1 := ⟨m - 1, by omega⟩
                have m1 : (0 : Int) < (m : Int) + 1 := by omega
                cases buf with
                | nil =>
                  have HC := Lib.hid (recvA_none p c 9 true wr HB.out)
                  go_wp2_with fail
                  refine HC.out.mono ?_
                  rintro e w10 ⟨rfl, bx, fx⟩
                  have ba := (Below.refl w10.heap.size w10).alloc (Nat.le_refl _) (.cells #[.int .i64 0, .int .i64 0] 53)
                  have HB2 := Lib.hid (bx.below ba)
                  have B2 := stepB (below_fr B fx B.size (by simp; omega)) ba
                  clear HC bx fx HB B ba
                  go_wp2_with fail
                  go_roundw
                  case rel => exact ⟨m, nx, [], by omega, by go_num, rfl, hnx, HB2, HQ, B2⟩
                  case measure => simp [intOf]
                | cons v rest =>
                  obtain ⟨y, rfl, hq⟩ := HQ.out.pop
                  have hql := hq.1
                  have HC := Lib.hid (recvA_some p c 9 rest (nx : Int) y true wr HB.out)
                  have hne : ((nx : Int) != (nx : Int)) = false := by simp
                  go_wp2_with fail
                  refine HC.out.mono ?_
                  rintro e w10 ⟨rfl, bx, fx⟩
                  have hbl := Blk.new w10 53 #[.int .i64 (nx : Int), .int .i64 y]
                  have x0 := hbl.cell 0
                  simp only [List.getElem?_cons_zero] at x0
                  have ba := (Below.refl w10.heap.size w10).alloc (Nat.le_refl _) (.cells #[.int .i64 (nx : Int), .int .i64 y] 53)
                  have HB2 := Lib.hid (bx.below ba)
                  have HQ2 := Lib.hid hq
                  have B2 := stepB (below_fr B fx B.size (by simp; omega)) ba
                  clear HC bx fx HB B ba hbl hq HQ
                  go_wp2_with fail
                  go_roundw
                  case rel => exact ⟨m, nx + 1, rest, by omega, by go_num, by go_num, by omega, HB2, HQ2, B2⟩
                  case measure => simp [intOf]
              · obtain rfl : m = 0 := by omega
                go_wp2_with fail
                go_roundw
                case rel => exact ⟨i + 1, nx, sn, buf, true, by omega, by omega, by go_num, rfl, rfl, by omega, by omega, HCL, HB, HQ, B⟩
                case measure => simp [intOf]; omega
          · have hdt : decide ((i : Int) < (ts.length : Int)) = false := decide_eq_false (by omega)
            obtain ⟨mm, hmm⟩ : ∃ mm : Nat, mm = 0 := ⟨0, rfl⟩
            have ww1 : (mm : Int) ≤ 3 := by omega
            go_wp2_with fail
            go_loopw [9, 12, 13, 14] (fun s9 s12 _ _ wr => ∃ (m nx : Nat) (buf : List Value), m ≤ 3 ∧ s12 = .int .i64 m ∧ s9 = .int .i64 nx ∧ nx ≤ sn ∧ Hid (BoxAt wr 82 p c 9 buf true) ∧ Hid (Qu nx (sn) buf) ∧ Below w.heap.size w wr) (fun _ s _ _ _ => (intOf s).toNat)
            case atStart => exact ⟨0, nx, buf, by omega, rfl, rfl, by omega, HB, HQ, B⟩
            case round =>
              clear HB HQ B hnx
              obtain ⟨m, nx, buf, hm, rfl, rfl, hnx, HB, HQ, B⟩ := hrel
              by_cases hm0 : 0 < m
              · obtain ⟨m, rfl⟩ : ∃ m', m = m' + 1 := ⟨m - 1, by omega⟩
                have m1 : (0 : Int) < (m : Int) + 1 := by omega
                cases buf with
                | nil =>
                  have HC := Lib.hid (recvA_none p c 9 true wr HB.out)
                  go_wp2_with fail
                  refine HC.out.mono ?_
                  rintro e w10 ⟨rfl, bx, fx⟩
                  have ba := (Below.refl w10.heap.size w10).alloc (Nat.le_refl _) (.cells #[.int .i64 0, .int .i64 0] 53)
                  have HB2 := Lib.hid (bx.below ba)
                  have B2 := stepB (below_fr B fx B.size (by simp; omega)) ba
                  clear HC bx fx HB B ba
                  go_wp2_with fail
                  go_roundw
                  case rel => exact ⟨m, nx, [], by omega, by go_num, rfl, hnx, HB2, HQ, B2⟩
                  case measure => simp [intOf]
                | cons v rest =>
                  obtain ⟨y, rfl, hq⟩ := HQ.out.pop
                  have hql := hq.1
                  have HC := Lib.hid (recvA_some p c 9 rest (nx : Int) y true wr HB.out)
                  have hne : ((nx : Int) != (nx : Int)) = false := by simp
                  go_wp2_with fail
                  refine HC.out.mono ?_
                  rintro e w10 ⟨rfl, bx, fx⟩
                  have hbl := Blk.new w10 53 #[.int .i64 (nx : Int), .int .i64 y]
                  have x0 := hbl.cell 0
                  simp only [List.getElem?_cons_zero] at x0
                  have ba := (Below.refl w10.heap.size w10).alloc (Nat.le_refl _) (.cells #[.int .i64 (nx : Int), .int .i64 y] 53)
                  have HB2 := Lib.hid (bx.below ba)
                  have HQ2 := Lib.hid hq
                  have B2 := stepB (below_fr B fx B.size (by simp; omega)) ba
                  clear HC bx fx HB B ba hbl hq HQ
                  go_wp2_with fail
                  go_roundw
                  case rel => exact ⟨m, nx + 1, rest, by omega, by go_num, by go_num, by omega, HB2, HQ2, B2⟩
                  case measure => simp [intOf]
              · obtain rfl : m = 0 := by omega
                go_wp2_with fail
                go_roundw
                case rel => exact ⟨i + 1, nx, sn, buf, true, by omega, by omega, by go_num, rfl, rfl, by omega, by omega, HCL, HB, HQ, B⟩
                case measure => simp [intOf]; omega
    · clear HCL
      by_cases hlt : i < zs.length
      all_goals
        first
          | (have hd4 : decide ((i : Int) < 250) = false := decide_eq_false (by omega))
          | skip
        clear hin
        go_wp2_with fail
        go_loopw [9, 15, 16] (fun s9 _ _ wr => ∃ (nx : Nat) (buf : List Value), nx ≤ sn ∧ s9 = .int .i64 nx ∧ Hid (BoxAt wr 82 p c 9 buf cl) ∧ Hid (Qu nx sn buf) ∧ Below w.heap.size w wr) (fun s _ _ _ => sn - (intOf s).toNat)
        case atStart => exact ⟨nx, buf, hnx, rfl, HB, HQ, B⟩
        case round =>
          clear HB HQ B hnx
          obtain ⟨nx, buf, hnx, rfl, HB, HQ, B⟩ := hrel
          cases buf with
          | nil =>
            obtain rfl : nx = sn := by have := HQ.out.1; simpa using this
            have HC := Lib.hid (recvA_none p c 9 cl wr HB.out)
            have heq : ((nx : Int) == (nx : Int)) = true := by simp
            go_wp2_with fail
            refine HC.out.mono ?_
            rintro e w10 ⟨rfl, bx, fx⟩
            have ba := (Below.refl w10.heap.size w10).alloc (Nat.le_refl _) (.cells #[.int .i64 0, .int .i64 0] 53)
            have B2 := stepB (below_fr B fx B.size (by simp; omega)) ba
            clear HC bx fx HB B ba
            go_wp2_with fail
            refine (mailRuns_calls _).mono ?_
            rintro e w11 ⟨rfl, b11⟩
            have B3 := stepB B2 b11
            go_wp2_with fail
            go_ret
            exact ⟨rfl, B3⟩
          | cons v rest =>
            obtain ⟨y, rfl, hq⟩ := HQ.out.pop
            have hql := hq.1
            have HC := Lib.hid (recvA_some p c 9 rest (nx : Int) y cl wr HB.out)
            have hne : ((nx : Int) != (nx : Int)) = false := by simp
            go_wp2_with fail
            refine HC.out.mono ?_
            rintro e w10 ⟨rfl, bx, fx⟩
            have hbl := Blk.new w10 53 #[.int .i64 (nx : Int), .int .i64 y]
            have x0 := hbl.cell 0
            simp only [List.getElem?_cons_zero] at x0
            have ba := (Below.refl w10.heap.size w10).alloc (Nat.le_refl _) (.cells #[.int .i64 (nx : Int), .int .i64 y] 53)
            have HB2 := Lib.hid (bx.below ba)
            have HQ2 := Lib.hid hq
            have B2 := stepB (below_fr B fx B.size (by simp; omega)) ba
            clear HC bx fx HB B ba hbl hq HQ
            go_wp2_with fail
            go_roundw
            case rel => exact ⟨nx + 1, rest, by omega, by go_num, HB2, HQ2, B2⟩
            case measure => simp [intOf]; omega
end Go.Proofs.Ytepmnhlfjidhjab
