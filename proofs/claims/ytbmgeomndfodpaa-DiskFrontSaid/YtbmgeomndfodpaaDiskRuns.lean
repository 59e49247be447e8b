/-
  DiskRuns: chapter 22's runs: the call answers true.
-/
import Derived.Test.YtbmgeomndfodpaaDiskE
import Derived.Test.YtbmgeomndfodpaaSameS
import Derived.Test.YtbmgeomndfodpaaMakeB
namespace Go.Proofs.Ytbmgeomndfodpaa
open Go.RowKit Go.Mem Go.Proofs

def kA : ByteArray := ⟨#[97]⟩
def kB : ByteArray := ⟨#[98]⟩
def kC : ByteArray := ⟨#[99]⟩
def kQ : ByteArray := ⟨#[113]⟩
def drW1 : List MW := [creX kA, groX kA (List.replicate 32 0), groX kA [0]]
def drW2 : List MW := drW1 ++ [renX kA kB]
def drM : FS := [(kA, List.replicate 32 0)]
theorem dr1 : dappNo kA (List.replicate 33 0) (replay [] []) = 0 ∧ [] ++ dappW kA (List.replicate 33 0) (replay [] []) = drW1 := ⟨by kernel_rfl, by kernel_rfl⟩
theorem dr2 : drenNo kA kB (replay [] drW1) = 0 ∧ drW1 ++ drenW kA kB (replay [] drW1) = drW2 := ⟨by kernel_rfl, by kernel_rfl⟩
theorem dr3 : replay [] (drW2.take (backN 2 drW2.length)) = drM := by kernel_rfl
theorem dr4 : bytesF kA (replay drM []) = List.replicate 32 0 ∧ (getF kA (replay drM [])).isSome = true := ⟨by kernel_rfl, by kernel_rfl⟩
theorem dr5 : dappNo kA [] (replay drM []) = 0 ∧ [] ++ dappW kA [] (replay drM []) = [] := ⟨by kernel_rfl, by kernel_rfl⟩
theorem dr6 : dappNo kC [] (replay drM []) = 0 ∧ [] ++ dappW kC [] (replay drM []) = [creX kC] := ⟨by kernel_rfl, by kernel_rfl⟩
theorem dr7 : dcutNo kA 99 (replay drM [creX kC]) = 1 ∧ [creX kC] ++ dcutW kA 99 (replay drM [creX kC]) = [creX kC] := ⟨by kernel_rfl, by kernel_rfl⟩
theorem dr8 : dremNo kQ (replay drM [creX kC]) = 7 ∧ [creX kC] ++ dremW kQ (replay drM [creX kC]) = [creX kC] := ⟨by kernel_rfl, by kernel_rfl⟩
set_option maxRecDepth 100000 in
set_option maxHeartbeats 3200000 in
theorem diskRuns_calls (w : World) : Calls Try.prog 9 #[] w fun e w' => e = .returned (.bool true) ∧ Below w.heap.size w w' := by
  have hmk : ∀ u : World, (Instr.makeSlice 27 (.int .i64 33) (.int .i64 33)).run Try.prog u = .ok (.slice (some ⟨u.heap.size, 0, none⟩) 33 33) (u.alloc (.cells (zerosB 33) 5)) := mkB 33 33 (by decide) (by decide)
  go_enter Try.func9, Try.ntmps9
  go_wp2_with fail
  refine (dnew_calls w).mono ?_
  rintro e w1 ⟨d, S1, rfl, h1, b1⟩
  have hA1 := Lib.hid (h1.alloc (.cells (zerosB 33) 5))
  have hB1 := Lib.hid (b1.alloc b1.size (.cells (zerosB 33) 5))
  have hS1 := Lib.hid (show Sl (w1.alloc (.cells (zerosB 33) 5)) (some ⟨w1.heap.size, 0, none⟩) ((List.replicate 33 (0 : UInt8)).map B8) from Sl.new rfl (by rw [← zerosB_map]))
  have hN1 := Lib.hid (show ∀ g o sp, (some (⟨w1.heap.size, 0, none⟩ : Addr)) = some ⟨g, o, sp⟩ → ¬ S1 g from fun g o sp e hs => by
    injection e with e; injection e with e
    have := (h1.y.lt g hs).2; omega)
  clear h1 b1
  go_wp2_with fail
  refine (dappendV hA1.out kA (some ⟨w1.heap.size, 0, none⟩) 33 33 (List.replicate 33 0) dr1.1 dr1.2 rfl hS1.out hN1.out (by decide) rfl rfl (by decide) (by decide)).mono ?_
  rintro e w2 ⟨rfl, S2, h2, _, b2⟩
  have B2 := hB1.out.trans b2
  clear hA1 hB1 hS1 hN1 b2 hmk
  go_wp2_with fail
  refine (dcountV h2 (n := 3) rfl).mono ?_
  rintro e w3 ⟨rfl, rfl⟩
  go_wp2_with fail
  refine (drenameV h2 kA kB dr2.1 dr2.2 (by decide) (by decide) rfl (by decide)).mono ?_
  rintro e w4 ⟨rfl, S4, h4, _, b4⟩
  have B4 := B2.trans b4
  clear h2 B2 b4
  go_wp2_with fail
  refine (dbackV h4 2 dr3 (by decide) (by decide)).mono ?_
  rintro e w5 ⟨rfl, S5, h5, _, b5⟩
  have B5 := B4.trans b5
  clear h4 B4 b5
  go_wp2_with fail
  refine (dreadV h5 (by decide) kA (n := 32) dr4.1 rfl dr4.2).mono ?_
  rintro e w6 ⟨D6, c6, rfl, o6, h6, b6⟩
  have B6 := B5.trans (b6.mono B5.size)
  clear h5 B5 b6 o6
  go_wp2_with fail
  refine (dnamesV h6 (by decide) (l := [kA]) (n := 1) (by kernel_rfl) rfl).mono ?_
  rintro e w7 ⟨D7, c7, rfl, o7, h7, b7⟩
  have B7 := B6.trans (b7.mono B6.size)
  have HS7 := Lib.hid ((o7.alloc (.cells #[.string kA] 9)).sl)
  clear h6 B6 b7 o7
  go_wp2_with fail
  refine (sameS_calls D7 (some ⟨w7.heap.size, 0, none⟩) 1 1 c7 1 [kA] [kA] _ rfl rfl (by decide) (by decide) HS7.out (Sl.new rfl rfl)).mono ?_
  rintro e w8 ⟨rfl, q8, hq8⟩
  have h8 : DV 1 0 w8 w.heap.size d drM [] S5 := by rw [hq8]; exact (h7.alloc _).drewN q8
  have B8' : Below w.heap.size w w8 := by rw [hq8]; exact below_drewN (B7.alloc B7.size _) q8
  rw [eqL_self]
  clear h7 B7 HS7 hq8
  go_wp2_with fail
  refine (dcountV h8 (n := 0) rfl).mono ?_
  rintro e w9 ⟨rfl, rfl⟩
  go_wp2_with fail
  refine (dmarkV h8 (M' := drM) rfl (by decide)).mono ?_
  rintro e w10 ⟨rfl, S10, h10, _, b10⟩
  have B10 := B8'.trans b10
  clear h8 B8' b10
  go_wp2_with fail
  refine (dappendV h10 kA none 0 0 [] dr5.1 dr5.2 rfl Sl.nil (fun g o sp e => by cases e) (by decide) rfl rfl (by decide) (by decide)).mono ?_
  rintro e w11 ⟨rfl, S11, h11, _, b11⟩
  have B11 := B10.trans b11
  clear h10 B10 b11
  go_wp2_with fail
  refine (dappendV h11 kC none 0 0 [] dr6.1 dr6.2 rfl Sl.nil (fun g o sp e => by cases e) (by decide) rfl rfl (by decide) (by decide)).mono ?_
  rintro e w12 ⟨rfl, S12, h12, _, b12⟩
  have B12 := B11.trans b12
  clear h11 B11 b12
  go_wp2_with fail
  refine (dcountV h12 (n := 1) rfl).mono ?_
  rintro e w13 ⟨rfl, rfl⟩
  go_wp2_with fail
  refine (dcutV h12 kA 99 dr7.1 dr7.2 (by decide) rfl (by decide)).mono ?_
  rintro e w14 ⟨rfl, S14, h14, _, b14⟩
  have B14 := B12.trans b14
  clear h12 B12 b14
  go_wp2_with fail
  refine (dremoveV h14 kQ dr8.1 dr8.2 (by decide) rfl (by decide)).mono ?_
  rintro e w15 ⟨rfl, S15, h15, _, b15⟩
  have B15 := B14.trans b15
  clear h14 B14 b15 h15
  go_wp2_with fail
  go_ret
  exact ⟨rfl, B15⟩
end Go.Proofs.Ytbmgeomndfodpaa
