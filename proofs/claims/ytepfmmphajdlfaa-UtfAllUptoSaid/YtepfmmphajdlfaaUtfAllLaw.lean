/-
  UtfAll, its walk.
-/
import Derived.Test.YtepfmmphajdlfaaUtfRuns
import Derived.Test.YtepfmmphajdlfaaUtfRefAll
import Derived.Test.YtepfmmphajdlfaaIntactB
namespace Go.Proofs.Ytepfmmphajdlfaa
open Go.RowKit Go.Mem

set_option maxRecDepth 100000 in
set_option maxHeartbeats 1600000 in
theorem utfAll_calls (A : Option Addr) (n cap : Nat) (bs : List UInt8) (w : World) (hl : bs.length = n) (hn : n ≤ 1048576) (hc : n ≤ cap) (hcm : cap ≤ 9223372036854775807) (hs : Sl w A (bs.map B8)) :
    Calls Try.prog 14 #[.slice A n cap] w fun e w' => e = .returned (.bool true) ∧ Below w.heap.size w w' := by
  subst hl
  have HR := Lib.hid (roomyB_calls A bs.length cap bs 144 w rfl (by omega) hs)
  go_enter Try.func14, Try.ntmps14
  go_wp2_with fail
  refine HR.out.mono ?_
  rintro e w1 ⟨rfl, B1, K1⟩
  have HS1 := Lib.hid (hs.below B1)
  have hh1 : Sl w1 (some ⟨w.heap.size, 0, none⟩) (bs.map B8) := by
    have h := K1.sl.take bs.length
    unfold rowB at h
    rw [List.take_append_of_le_length (by simp), List.take_of_length_le (by simp)] at h
    exact h
  have HK := Lib.hid K1
  have HA := Lib.hid (all_calls bs (some ⟨w.heap.size, 0, none⟩) bs.length (bs.length + 80) w1 rfl (by omega) (by omega) (by omega) hh1)
  clear HR K1 hh1
  go_wp2_with fail
  refine HA.out.mono ?_
  unfold AllEnds
  rintro e w2 ⟨D2, m2, c2, rfl, hm2, hm3, ho2, b2⟩
  have HS2 := Lib.hid (HS1.out.below b2)
  have HK2 := Lib.hid (HK.out.below b2 HK.out.lt)
  have hB2 := B1.trans (b2.mono B1.size)
  have hs2 := ho2.sl
  subst hm2
  clear HS1 HK HA ho2 b2 B1
  go_wp2_with fail
  refine (refAll_calls bs A bs.length cap w2 rfl (by omega) hc hcm HS2.out).mono ?_
  unfold AllEnds
  rintro e w3 ⟨D3, m3, c3, rfl, hm4, _, ho3, b3⟩
  have HS3 := Lib.hid (HS2.out.below b3)
  have HK3 := Lib.hid (HK2.out.below b3 HK2.out.lt)
  have hB3 := hB2.trans (b3.mono hB2.size)
  have hs3 := ho3.sl
  have hs23 := hs2.below b3
  subst hm4
  clear HS2 HK2 hB2 ho3 b3 hs2
  go_wp2_with fail
  refine (sameG_true D2 D3 _ _ c2 c3 (allU bs) w3 rfl rfl (by omega) hs23 hs3).mono ?_
  rintro e w4 ⟨rfl, q4, rfl⟩
  have HS4 := Lib.hid (HS3.out.drewN q4)
  have HK4 := Lib.hid (HK3.out.drewN q4)
  have hB4 := below_drewN hB3 q4
  clear HS3 HK3 hB3 hs23 hs3
  generalize w3.drewN q4 = w4 at *
  go_wp2_with fail
  refine (intactB_calls _ A bs.length (bs.length + 80) (bs.length + 80) cap bs 144 w4 rfl rfl (by omega) HK4.out.sl HS4.out (Nat.le_refl _)).mono ?_
  rintro e w5 ⟨rfl, q5, rfl⟩
  have hB5 := below_drewN hB4 q5
  clear HS4 HK4 hB4
  go_wp2_with fail
  refine (utfRuns_calls _).mono ?_
  rintro e w6 ⟨rfl, b6⟩
  go_wp2_with fail
  go_ret
  exact ⟨rfl, hB5.trans (b6.mono hB5.size)⟩
end Go.Proofs.Ytepfmmphajdlfaa
