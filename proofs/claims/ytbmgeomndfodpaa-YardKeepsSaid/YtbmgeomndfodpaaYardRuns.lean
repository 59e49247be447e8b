/-
  YardRuns: chapter 21's runs: the call answers true.
-/
import Derived.Test.YtbmgeomndfodpaaYardV
import Derived.Lib.SlBytesConst
import Derived.Test.YtbmgeomndfodpaaConv
namespace Go.Proofs.Ytbmgeomndfodpaa
open Go.RowKit Go.Mem Go.Proofs

def nA : ByteArray := ⟨#[97]⟩
def nB : ByteArray := ⟨#[98]⟩
def runs1 : List MF := [⟨1, nA, []⟩]
def runs2 : List MF := [⟨1, nA, []⟩, ⟨2, nB, []⟩]
def runs3 : List MF := [⟨1, nA, [120, 121, 122]⟩, ⟨2, nB, []⟩]
def runs4 : List MF := [⟨1, nB, [120, 121, 122]⟩]
def runs5 : List MF := [⟨1, nB, [120, 121, 122]⟩, ⟨2, nA, []⟩]
theorem r1 : createNo nA [] = 0 ∧ createM nA [] = runs1 := ⟨by kernel_rfl, by kernel_rfl⟩
theorem r2 : createNo nB runs1 = 0 ∧ createM nB runs1 = runs2 := ⟨by kernel_rfl, by kernel_rfl⟩
theorem r3 : appendNo nA [120, 121, 122] runs2 = 0 ∧ appendM nA [120, 121, 122] runs2 = runs3 := ⟨by kernel_rfl, by kernel_rfl⟩
theorem r4 : renameNo nA nB runs3 = 0 ∧ renameM nA nB runs3 = runs4 := ⟨by kernel_rfl, by kernel_rfl⟩
theorem r5 : filesM runs4 = [(1, nB, 3)] := by kernel_rfl
theorem r6 : createNo nA runs4 = 0 ∧ createM nA runs4 = runs5 := ⟨by kernel_rfl, by kernel_rfl⟩
theorem r7 : findV nA runs5 = .agg #[.int .i64 2, .string nA, .int .i64 0] ∧ (findM nA runs5).isSome = true := ⟨by kernel_rfl, by kernel_rfl⟩
theorem r8 : readB 1 1 9 runs5 = [121, 122] ∧ readNo 1 1 9 runs5 = 0 ∧ readT 1 1 9 runs5 [] = [(1, 2)] := ⟨by kernel_rfl, by kernel_rfl, by kernel_rfl⟩
theorem r9 : readB 3 0 1 runs5 = [] ∧ readNo 3 0 1 runs5 = 7 ∧ readT 3 0 1 runs5 [(1, 2)] = [(1, 2)] := ⟨by kernel_rfl, by kernel_rfl, by kernel_rfl⟩
theorem r10 : cutNo nB 4 runs5 = 1 ∧ cutM nB 4 runs5 = runs5 := ⟨by kernel_rfl, by kernel_rfl⟩
set_option maxRecDepth 100000 in
set_option maxHeartbeats 3200000 in
theorem yardRuns_calls (w : World) : Calls Try.prog 3 #[] w fun e w' => e = .returned (.bool true) ∧ Below w.heap.size w w' := by
  go_enter Try.func3, Try.ntmps3
  go_wp2_with fail
  refine (newV w).mono ?_
  rintro e w1 ⟨y, S1, rfl, h1, b1⟩
  go_wp2_with fail
  refine (createV h1 nA r1.1 r1.2 (by decide)).mono ?_
  rintro e w2 ⟨rfl, S2, h2, _, b2⟩
  have B2 := b1.trans b2
  clear h1 b1 b2
  go_wp2_with fail
  refine (createV h2 nB r2.1 r2.2 (by decide)).mono ?_
  rintro e w3 ⟨rfl, S3, h3, _, b3⟩
  have B3 := B2.trans b3
  clear h2 B2 b3
  have qc : (convert 27 27 (.slice (some ⟨w3.heap.size, 0, none⟩) 3 3)).run Try.prog (w3.alloc (.cells #[.int .u8 120, .int .u8 121, .int .u8 122] 5)) = .ok (.slice (some ⟨w3.heap.size, 0, none⟩) 3 3) (w3.alloc (.cells #[.int .u8 120, .int .u8 121, .int .u8 122] 5 (3, 4))) := Lib.run_convert_bytes_const w3 27 5 #[.int .u8 120, .int .u8 121, .int .u8 122] 3 3 Try.underlying27 Try.underlying5
  have HSx : Hid (Sl (w3.alloc (.cells #[.int .u8 120, .int .u8 121, .int .u8 122] 5 (3, 4))) (some ⟨w3.heap.size, 0, none⟩) (([120, 121, 122] : List UInt8).map B8)) := (show Sl _ _ _ from fun j u hu => ⟨_, _, rfl, by rw [Nat.zero_add, World.cell?_alloc_mark, ← hu]; simp; rfl⟩)
  go_wp2_with fail
  refine (appendV (h3.alloc (.cells #[.int .u8 120, .int .u8 121, .int .u8 122] 5 (3, 4))) nA (some ⟨w3.heap.size, 0, none⟩) 3 3 [120, 121, 122] r3.1 r3.2 rfl HSx.out).mono ?_
  rintro e w4 ⟨rfl, S4, h4, _, b4⟩
  have B4 := (B3.alloc B3.size _).trans b4
  clear h3 B3 b4 qc HSx
  go_wp2_with fail
  refine (renameV h4 nA nB r4.1 r4.2 (by decide)).mono ?_
  rintro e w5 ⟨rfl, S5, h5, _, b5⟩
  have B5 := B4.trans b5
  clear h4 B4 b5
  go_wp2_with fail
  refine (filesV h5 (n := 1) r5 rfl).mono ?_
  rintro e w6 ⟨D6, c6, rfl, o6, h6, b6⟩
  have B6 := B5.trans (b6.mono B5.size)
  have HS6 := Lib.hid ((o6.alloc (.cells #[.int .i64 1, .string nB, .int .i64 3] 31)).sl)
  clear h5 B5 b6 o6
  go_wp2_with fail
  refine (sameG_true D6 (some ⟨w6.heap.size, 0, none⟩) 1 1 c6 1 [(1, nB, 3)] _ rfl rfl (by decide) HS6.out (Sl.new rfl rfl)).mono ?_
  rintro e w7 ⟨rfl, q7, hq7⟩
  have h7 : YV w7 w.heap.size y runs4 [] S5 := by rw [hq7]; exact (h6.alloc _).drewN q7
  have B7 : Below w.heap.size w w7 := by rw [hq7]; exact below_drewN (B6.alloc B6.size _) q7
  clear h6 B6 HS6 hq7
  go_wp2_with fail
  refine (createV h7 nA r6.1 r6.2 (by decide)).mono ?_
  rintro e w8 ⟨rfl, S8, h8, _, b8⟩
  have B8 := B7.trans b8
  clear h7 B7 b8
  go_wp2_with fail
  refine (fndV h8 nA r7.1 r7.2).mono ?_
  rintro e w9 ⟨rfl, h9, b9⟩
  have B9 := B8.trans (b9.mono B8.size)
  clear h8 B8 b9
  have hbn := Blk.new w9 31 #[.int .i64 2, .string nA, .int .i64 0]
  have hS8 : ¬ S8 w9.heap.size := fun e => by have := (h9.s.lt _ e).2; omega
  have HA := Lib.hid (h9.alloc (.cells #[.int .i64 2, .string nA, .int .i64 0] 31))
  have HBA := Lib.hid (B9.alloc B9.size (.cells #[.int .i64 2, .string nA, .int .i64 0] 31))
  clear h9 B9
  go_upto_region 7 with fail
  generalize w9.alloc (.cells #[.int .i64 2, .string nA, .int .i64 0] 31) = w10 at *
  generalize w9.heap.size = fb at *
  go_wp2_with fail
  refine (readV HA.out 1 1 9 r8.1 (r := 2) rfl r8.2.1 r8.2.2 (by decide) (by decide) (by decide)).mono ?_
  rintro e w11 ⟨D, c, S11, rfl, o11, h11, f11, b11, n11⟩
  have hbn11 : Blk w11 fb 31 [.int .i64 2, .string nA, .int .i64 0] := (f11.k fb hbn.lt hS8).trans hbn
  have hS11 : ¬ S11 fb := fun e => hS8 (f11.n fb hbn.lt e)
  have B11 := HBA.out.trans b11
  clear HA HBA b11 f11 hbn hS8
  go_wp2_with fail
  refine (readV h11 3 0 1 r9.1 (r := 0) rfl r9.2.1 r9.2.2 (by decide) (by decide) (by decide)).mono ?_
  rintro e w12 ⟨D2, c2, S12, rfl, _, h12, f12, b12, _⟩
  have hbn12 : Blk w12 fb 31 [.int .i64 2, .string nA, .int .i64 0] := (f12.k fb hbn11.lt hS11).trans hbn11
  have o12 := own_keepN o11 (fun g hg => f12.k g (own_ltN o11 hg).1 (n11 g hg))
  have B12 := B11.trans b12
  have n0 := hbn12.cell 0
  simp only [List.getElem?_cons_zero] at n0
  have qs := conv_str w12 27 9 5 Try.underlying27 Try.underlying5 Try.underlying9 D 2 c [121, 122] rfl o12.sl
  rw [show Go.Mem.S8 [121, 122] = .string ⟨#[121, 122]⟩ from rfl] at qs
  clear h11 o11 n11 f12 b12 hbn11 hbn12 hS11 B11 o12
  go_wp2_with fail
  refine (takenV h12 1 (v := 2) (by decide) (by decide)).mono ?_
  rintro e w13 ⟨rfl, q13, rfl⟩
  have h13 := h12.drewN q13
  have B13 := below_drewN B12 q13
  clear h12 B12 n0 qs
  go_wp2_with fail
  refine (cutV h13 nB 4 r10.1 r10.2).mono ?_
  rintro e w14 ⟨rfl, _, _, _, b14⟩
  have B14 := B13.trans b14
  clear h13 B13 b14
  go_wp2_with fail
  go_ret
  exact ⟨rfl, B14⟩
end Go.Proofs.Ytbmgeomndfodpaa
