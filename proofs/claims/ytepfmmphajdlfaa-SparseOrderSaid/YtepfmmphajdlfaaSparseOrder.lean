/-
  SparseOrder, its walk.
-/
import Derived.Test.YtepfmmphajdlfaaSparseRuns
import Derived.Test.YtepfmmphajdlfaaWithin
import Derived.Test.YtepfmmphajdlfaaConv
import Derived.Test.YtepfmmphajdlfaaSameI
namespace Go.Proofs.Ytepfmmphajdlfaa
open Go.RowKit Go.Mem

/-- two bytes as a text -/
theorem conv2 (a b k : Nat) (ha : a < 256) (hb : b < 256) (W : World) (hk : k = W.heap.size) :
    (convert 22 9 (.slice (some ⟨k, 0, none⟩) 2 2)).run Try.prog (W.alloc (.cells #[.int .u8 (a : Int), .int .u8 (b : Int)] 5)) = .ok (.string ⟨#[UInt8.ofNat a, UInt8.ofNat b]⟩) (W.alloc (.cells #[.int .u8 (a : Int), .int .u8 (b : Int)] 5)) := by
  subst hk
  refine conv_str (P := Try.prog) _ 22 9 5 Try.underlying22 Try.underlying5 Try.underlying9 _ 2 2 [UInt8.ofNat a, UInt8.ofNat b] rfl (Sl.new rfl ?_)
  simp only [List.map_cons, List.map_nil, B8_eq, UInt8.toNat_ofNat', Nat.reducePow, Nat.mod_eq_of_lt ha, Nat.mod_eq_of_lt hb]

set_option maxRecDepth 100000 in
set_option maxHeartbeats 3200000 in
theorem sparseOrder_calls (A : Option Addr) (n cap : Nat) (ls : List Int) (w : World) (hl : ls.length = n) (hn : n ≤ 9223372036854775807) (hs : Sl w A (ls.map I64)) (hz : ∀ z ∈ ls, -9223372036854775808 ≤ z ∧ z ≤ 9223372036854775807) :
    Calls Try.prog 12 #[.slice A n cap] w fun e w' => e = .returned (.bool true) ∧ Below w.heap.size w w' := by
  subst hl
  go_enter Try.func12, Try.ntmps12
  go_wp2_with fail
  refine (snewS_ok 100 w (by decide)).mono ?_
  unfold NewStS
  rintro e w1 ⟨p, g, rfl, h1, B1⟩
  have H1 := Lib.hid h1
  clear h1
  go_wp2_with fail
  go_loopw [5, 6, 7, 8, 9, 10, 11, 12] (fun m i _ _ _ _ _ _ wr => ∃ (j c : Nat) (L : Option Addr) (xs : List (Nat × ByteArray)), j ≤ ls.length ∧ j ≤ 200 ∧ i = .int .i64 j ∧ m = .int .i64 (xs.length : Int) ∧ Hid (StS wr w.heap.size p g 100 L c xs) ∧ Below w.heap.size w wr) (fun _ i _ _ _ _ _ _ _ => 200 - (intOf i).toNat)
  case atStart => exact ⟨0, 0, none, [], Nat.zero_le _, Nat.zero_le _, rfl, rfl, H1, B1⟩
  case round =>
    clear H1 B1
    obtain ⟨j, c, L, xs, hj, hj2, rfl, rfl, H, hB⟩ := hrel
    have hxl := H.out.count
    by_cases hin : j < ls.length ∧ j < 200
    · obtain ⟨hlt, h200⟩ := hin
      have hd3 : decide ((j : Int) < 200) = true := decide_eq_true (by omega)
      obtain ⟨b, o, rfl, hca⟩ := (hs.below hB).int hlt
      have hzz := hz _ (List.getElem_mem hlt)
      generalize ls[j] = z at hca hzz
      have hw0 := within_ge z 0 99 (by decide)
      have hw1 := within_le z 0 99 (by decide)
      go_wp2_with fail
      refine (within_calls z 0 99 _ (by decide) (by decide) (by decide) hzz).mono ?_
      rintro e w2 ⟨rfl, rfl⟩
      generalize within z 0 99 = kk at hw0 hw1
      obtain ⟨kk, rfl⟩ := Int.eq_ofNat_of_zero_le hw0
      clear hca
      have kc := fun (W : World) (k : Nat) (hk : k = W.heap.size) => conv2 j kk k (by omega) (by omega) W hk
      generalize hnm : (⟨#[UInt8.ofNat j, UInt8.ofNat kk]⟩ : ByteArray) = nm at kc
      clear hnm
      have H2 := Lib.hid (H.out.below ((Below.refl _ _).alloc (Nat.le_refl _) (.cells #[.int .u8 (j : Int), .int .u8 (kk : Int)] 5 (0, 0))))
      have hB2 := hB.alloc hB.size (.cells #[.int .u8 (j : Int), .int .u8 (kk : Int)] 5 (0, 0))
      clear H hB
      go_wp2_with fail
      clear kc
      generalize wr.alloc (.cells #[.int .u8 (j : Int), .int .u8 (kk : Int)] 5 (0, 0)) = w2 at H2 hB2 ⊢
      refine (hasS_calls _ p g 100 c L xs (kk : Int) w2 H2.out).mono ?_
      rintro e w3 ⟨rfl, rfl⟩
      generalize hm : membS xs (kk : Int) = m
      cases m
      · have HA := Lib.hid (saddS_ok _ p g 100 c L xs kk nm w2 H2.out (by omega) hm)
        have hB3 := fun (L' : Option Addr) (w3 : World) (f : SFr p g L L' w2 w3) => below_setS hB2 H2.out f
        have HB3 := Lib.hid hB3
        clear hm H2 hB2 hB3
        go_wp2_with fail
        refine HA.out.mono ?_
        unfold SEndsS
        rintro e w3 ⟨L3, c3, rfl, h3, f3⟩
        have hB4 := HB3.out L3 w3 f3
        have HT := Lib.hid (satS_calls _ p g 100 c3 L3 _ (xs.length : Int) w3 h3)
        rw [show rowS (xs ++ [(kk, nm)]) (xs.length : Int) = some (kk, nm) by unfold rowS; rw [if_pos (by omega)]; simp] at HT
        simp only [rowVS] at HT
        have H3 := Lib.hid h3
        have hstr : (!(nm.toList == nm.toList)) = false := by simp
        clear f3 h3 HB3 HA
        go_wp2_with fail
        refine HT.out.mono ?_
        unfold SQuietS
        rintro e w4 ⟨rfl, q4, rfl⟩
        have H4 := Lib.hid (H3.out.drewN q4)
        have hB5 := below_drewN hB4 q4
        clear H3 hB4 HT
        go_wp2_with fail
        go_roundw
        case rel => exact ⟨j + 1, c3, L3, xs ++ [(kk, nm)], by omega, by omega, by go_num, by simp, H4, hB5⟩
        case measure => simp [intOf]; omega
      · have HA := Lib.hid (saddS_no _ p g 100 c L xs (kk : Int) nm w2 H2.out (by unfold canS; rw [hm]; simp))
        have hB3 := fun (L' : Option Addr) (w3 : World) (f : SFr p g L L' w2 w3) => below_setS hB2 H2.out f
        have HB3 := Lib.hid hB3
        clear hm H2 hB2 hB3
        go_wp2_with fail
        refine HA.out.mono ?_
        unfold SEndsS
        rintro e w3 ⟨L3, c3, rfl, h3, f3⟩
        have hB4 := HB3.out L3 w3 f3
        have H3 := Lib.hid h3
        clear f3 h3 HB3 HA
        go_wp2_with fail
        go_roundw
        case rel => exact ⟨j + 1, c3, L3, xs, by omega, by omega, by go_num, rfl, H3, hB4⟩
        case measure => simp [intOf]; omega
    · by_cases hlt : j < ls.length
      · have hd4 : decide ((j : Int) < 200) = false := decide_eq_false (by omega)
        clear hin
        go_wp2_with fail
        refine (slenS_calls _ p g 100 c L xs _ H.out).mono ?_
        rintro e w3 ⟨rfl, rfl⟩
        go_wp2_with fail
        refine (sparseRuns_calls _).mono ?_
        rintro e w4 ⟨rfl, b4⟩
        go_wp2_with fail
        go_ret
        exact ⟨rfl, hB.trans (b4.mono hB.size)⟩
      · clear hin
        go_wp2_with fail
        refine (slenS_calls _ p g 100 c L xs _ H.out).mono ?_
        rintro e w3 ⟨rfl, rfl⟩
        go_wp2_with fail
        refine (sparseRuns_calls _).mono ?_
        rintro e w4 ⟨rfl, b4⟩
        go_wp2_with fail
        go_ret
        exact ⟨rfl, hB.trans (b4.mono hB.size)⟩
end Go.Proofs.Ytepfmmphajdlfaa
