/-
  UtfRuns: chapter 7's runs: the call answers true (written by gen/utfruns.py).
-/
import Derived.Test.YtepmnhlfjidhjaaUtfByte
import Derived.Test.YtepmnhlfjidhjaaUtfSame
import Derived.Test.YtepmnhlfjidhjaaSameB
namespace Go.Proofs.Ytepmnhlfjidhjaa
open Go.RowKit Go.Mem

theorem allU_step {bs rest : List UInt8} (g : Nat × Nat) (h : 0 < bs.length) (hf : frontU bs = g) (hd : bs.drop g.2 = rest) : allU bs = g :: allU rest := by rw [allU_cons h, hf, hd]
theorem loopU_step {bs rest : List UInt8} (g : Nat × Nat) (h : ¬ (bs = [] ∨ startU bs = 0)) (hf : frontU bs = g) (hd : bs.drop g.2 = rest) : loopU bs = ((loopU rest).1, g :: (loopU rest).2) := by rw [loopU_more h, hf, hd]
theorem runs_all : allU [97, 195, 169, 255, 226, 130] = [(97, 1), (233, 2), (65533, 1), (65533, 1), (65533, 1)] := by
  rw [allU_step (97, 1) (by decide) (by decide +kernel) rfl, allU_step (233, 2) (by decide) (by decide +kernel) rfl, allU_step (65533, 1) (by decide) (by decide +kernel) rfl, allU_step (65533, 1) (by decide) (by decide +kernel) rfl, allU_step (65533, 1) (by decide) (by decide +kernel) rfl]
  exact congrArg _ (congrArg _ (congrArg _ (congrArg _ (congrArg _ allU_nil))))
theorem runs_1 : loopU ([] ++ [226]) = ([226], []) := loopU_stop (.inr (by decide +kernel))
theorem runs_2 : loopU ([226] ++ [130]) = ([226, 130], []) := loopU_stop (.inr (by decide +kernel))
theorem runs_3 : loopU ([226, 130] ++ [172]) = ([], [(8364, 3)]) := by
  rw [show ([226, 130] ++ [172] : List UInt8) = [226, 130, 172] from rfl, loopU_step (rest := []) (8364, 3) (by decide +kernel) (by decide +kernel) rfl, loopU_stop (.inl rfl)]
theorem runs_4 : loopU ([226] ++ [97]) = ([], [(65533, 1), (97, 1)]) := by
  rw [show ([226] ++ [97] : List UInt8) = [226, 97] from rfl, loopU_step (rest := [97]) (65533, 1) (by decide +kernel) (by decide +kernel) rfl, loopU_step (rest := []) (97, 1) (by decide +kernel) (by decide +kernel) rfl, loopU_stop (.inl rfl)]
theorem Dec.mono {w : World} {B B' p n c : Nat} {L : Option Addr} {h : List UInt8} (d : Dec w B p L n c h) (hb : B' ≤ B) : Dec w B' p L n c h := ⟨d.obj, d.own.mono hb, d.len, Nat.le_trans hb d.low⟩
theorem Dec.other {w w' : World} {B B2 p p2 n c : Nat} {L L' : Option Addr} {h : List UInt8} (d2 : Dec w B2 p2 none 0 0 []) (d : Dec w B p L n c h) (f : DFr p L L' w w') (hne : p2 ≠ p) : Dec w' B2 p2 none 0 0 [] :=
  ⟨(f.block p2 d2.obj.lt hne (fun e => by
    rcases d.own.2.2 with ⟨e2, _⟩ | ⟨g, sp, e2, _, hb, _⟩
    · rw [e] at e2; cases e2
    · rw [e] at e2; injection e2 with e2; injection e2 with e3 _; subst e3; exact (hb.ne_ d2.obj (by decide)) rfl)).trans d2.obj, OwnB.nil _ _ _ _, rfl, d2.low⟩
theorem byteC (B p n c : Nat) (L : Option Addr) (h : List UInt8) (x : UInt8) (v : Int) (hv : (x.toNat : Int) = v) (r : List UInt8 × List (Nat × Nat)) (hr : loopU (h ++ [x]) = r) (w : World) (d : Dec w B p L n c h) (hn : n ≤ 1000000) (hB : B ≤ w.heap.size) :
    Calls Try.prog 18 #[.pointer (some ⟨p, 0, none⟩), .int .u8 v] w (ByteEnds w B p L r) := by
  subst hv hr; exact byte_calls B p n c L h x w d hn hB

set_option maxRecDepth 100000 in
set_option maxHeartbeats 3200000 in
theorem utfRuns_calls (w : World) : Calls Try.prog 16 #[] w fun e w' => e = .returned (.bool true) ∧ Below w.heap.size w w' := by
  go_enter Try.func16, Try.ntmps16
  go_wp2_with fail
  refine (dnew_calls w).mono ?_
  unfold NewDec
  rintro e w1 ⟨p, rfl, d1, b1⟩
  go_wp2_with fail
  refine (dnew_calls w1).mono ?_
  unfold NewDec
  rintro e w2 ⟨p2, rfl, d2, b2⟩
  have hne : p2 ≠ p := Ne.symm (Nat.ne_of_lt (Nat.lt_of_lt_of_le d1.obj.lt d2.low))
  have HD := Lib.hid (d1.below b2)
  have HE := Lib.hid (d2.mono b1.size)
  have hB := b1.trans (b2.mono b1.size)
  clear d1 d2 b1 b2
  go_wp2_with fail
  have hal : Below w2.heap.size w2 (w2.alloc (.cells #[.int .u8 97, .int .u8 195, .int .u8 169, .int .u8 255, .int .u8 226, .int .u8 130] 5)) := (Below.refl _ _).alloc (Nat.le_refl _) _
  have HDn := Lib.hid (HD.out.below hal)
  have HEn := Lib.hid (HE.out.below hal)
  have hBn := hB.trans (hal.mono hB.size)
  have hnew : Sl (w2.alloc (.cells #[.int .u8 97, .int .u8 195, .int .u8 169, .int .u8 255, .int .u8 226, .int .u8 130] 5)) (some ⟨w2.heap.size, 0, none⟩) [.int .u8 97, .int .u8 195, .int .u8 169, .int .u8 255, .int .u8 226, .int .u8 130] := Sl.new rfl rfl
  clear HD HE hB hal
  generalize w2.alloc (.cells #[.int .u8 97, .int .u8 195, .int .u8 169, .int .u8 255, .int .u8 226, .int .u8 130] 5) = w3 at *
  generalize w2.heap.size = aw3 at *
  have HD := HDn
  have HE := HEn
  have hB := hBn
  clear HDn HEn hBn
  refine (all_calls [97, 195, 169, 255, 226, 130] (some ⟨aw3, 0, none⟩) 6 6 w3 rfl (by decide) (by decide) (by decide) hnew).mono ?_
  unfold AllEnds
  rintro e w4 ⟨D4, m4, c4, rfl, hm4, _, ho4, b4⟩
  rw [runs_all] at hm4 ho4
  obtain rfl : m4 = 5 := hm4
  have HDn := Lib.hid (HD.out.below b4)
  have HEn := Lib.hid (HE.out.below b4)
  have hBn := hB.trans (b4.mono hB.size)
  have hs4 := ho4.sl
  clear HD HE hB b4 ho4 hnew
  have HD := HDn
  have HE := HEn
  have hB := hBn
  clear HDn HEn hBn
  go_wp2_with fail
  have hal : Below w4.heap.size w4 (w4.alloc (.cells #[.int .i32 97, .int .i64 1, .int .i32 233, .int .i64 2, .int .i32 65533, .int .i64 1, .int .i32 65533, .int .i64 1, .int .i32 65533, .int .i64 1] 26)) := (Below.refl _ _).alloc (Nat.le_refl _) _
  have HDn := Lib.hid (HD.out.below hal)
  have HEn := Lib.hid (HE.out.below hal)
  have hBn := hB.trans (hal.mono hB.size)
  have hnew : Sl (w4.alloc (.cells #[.int .i32 97, .int .i64 1, .int .i32 233, .int .i64 2, .int .i32 65533, .int .i64 1, .int .i32 65533, .int .i64 1, .int .i32 65533, .int .i64 1] 26)) (some ⟨w4.heap.size, 0, none⟩) [.int .i32 97, .int .i64 1, .int .i32 233, .int .i64 2, .int .i32 65533, .int .i64 1, .int .i32 65533, .int .i64 1, .int .i32 65533, .int .i64 1] := Sl.new rfl rfl
  have hsn := hs4.below hal
  clear hs4
  have hs4 := hsn
  clear hsn
  clear HD HE hB hal
  generalize w4.alloc (.cells #[.int .i32 97, .int .i64 1, .int .i32 233, .int .i64 2, .int .i32 65533, .int .i64 1, .int .i32 65533, .int .i64 1, .int .i32 65533, .int .i64 1] 26) = w5 at *
  generalize w4.heap.size = aw5 at *
  have HD := HDn
  have HE := HEn
  have hB := hBn
  clear HDn HEn hBn
  refine (sameG_true D4 (some ⟨aw5, 0, none⟩) 5 5 c4 5 [(97, 1), (233, 2), (65533, 1), (65533, 1), (65533, 1)] w5 rfl rfl (by decide) hs4 hnew).mono ?_
  rintro e wq ⟨rfl, q, rfl⟩
  have HDn := Lib.hid (HD.out.drewN q)
  have HEn := Lib.hid (HE.out.drewN q)
  have hBn := below_drewN hB q
  clear HD HE hB hs4 hnew
  generalize w5.drewN q = w5q at *
  have HD := HDn
  have HE := HEn
  have hB := hBn
  clear HDn HEn hBn
  go_wp2_with fail
  refine (byteC w.heap.size p 0 0 none [] 226 226 rfl _ runs_1 w5q HD.out (by decide) hB.size).mono ?_
  unfold ByteEnds
  rintro e w6 ⟨Lw6, Dw6, nw6, cw6, mw6, cDw6, rfl, hm, _, hd, ho, hf⟩
  have hln := hd.len
  obtain rfl : nw6 = 1 := hln
  obtain rfl : mw6 = 0 := hm
  have hBn := below_dfr hB HD.out hf hB.size
  have HEn := Lib.hid (HE.out.other HD.out hf hne)
  have hs4 := ho.sl
  clear HD HE hB ho hf
  have HD := Lib.hid hd
  have HE := HEn
  have hB := hBn
  clear hd HEn hBn
  go_wp2_with fail
  clear hs4
  refine (byteC w.heap.size p 1 cw6 Lw6 [226] 130 130 rfl _ runs_2 w6 HD.out (by decide) hB.size).mono ?_
  unfold ByteEnds
  rintro e w7 ⟨Lw7, Dw7, nw7, cw7, mw7, cDw7, rfl, hm, _, hd, ho, hf⟩
  have hln := hd.len
  obtain rfl : nw7 = 2 := hln
  obtain rfl : mw7 = 0 := hm
  have hBn := below_dfr hB HD.out hf hB.size
  have HEn := Lib.hid (HE.out.other HD.out hf hne)
  have hs4 := ho.sl
  clear HD HE hB ho hf
  have HD := Lib.hid hd
  have HE := HEn
  have hB := hBn
  clear hd HEn hBn
  go_wp2_with fail
  clear hs4
  refine (held_calls w.heap.size p 2 cw7 Lw7 [226, 130] w7 HD.out (by decide)).mono ?_
  unfold HeldEnds
  rintro e w8 ⟨D8, c8, rfl, ho8, b8⟩
  have HDn := Lib.hid (HD.out.below b8)
  have HEn := Lib.hid (HE.out.below b8)
  have hBn := hB.trans (b8.mono hB.size)
  have hs4 := ho8.sl
  clear HD HE hB ho8 b8
  have HD := HDn
  have HE := HEn
  have hB := hBn
  clear HDn HEn hBn
  go_wp2_with fail
  have hal : Below w8.heap.size w8 (w8.alloc (.cells #[.int .u8 226, .int .u8 130] 5)) := (Below.refl _ _).alloc (Nat.le_refl _) _
  have HDn := Lib.hid (HD.out.below hal)
  have HEn := Lib.hid (HE.out.below hal)
  have hBn := hB.trans (hal.mono hB.size)
  have hnew : Sl (w8.alloc (.cells #[.int .u8 226, .int .u8 130] 5)) (some ⟨w8.heap.size, 0, none⟩) [.int .u8 226, .int .u8 130] := Sl.new rfl rfl
  have hsn := hs4.below hal
  clear hs4
  have hs4 := hsn
  clear hsn
  clear HD HE hB hal
  generalize w8.alloc (.cells #[.int .u8 226, .int .u8 130] 5) = w9 at *
  generalize w8.heap.size = aw9 at *
  have HD := HDn
  have HE := HEn
  have hB := hBn
  clear HDn HEn hBn
  refine (sameB_calls D8 (some ⟨aw9, 0, none⟩) 2 2 c8 2 [226, 130] [226, 130] w9 rfl rfl (by decide) (by decide) hs4 hnew).mono ?_
  rintro e wq ⟨rfl, q, rfl⟩
  have HDn := Lib.hid (HD.out.drewN q)
  have HEn := Lib.hid (HE.out.drewN q)
  have hBn := below_drewN hB q
  clear HD HE hB hs4 hnew
  generalize w9.drewN q = w9q at *
  have HD := HDn
  have HE := HEn
  have hB := hBn
  clear HDn HEn hBn
  go_wp2_with fail
  refine (byteC w.heap.size p 2 cw7 Lw7 [226, 130] 172 172 rfl _ runs_3 w9q HD.out (by decide) hB.size).mono ?_
  unfold ByteEnds
  rintro e w10 ⟨Lw10, Dw10, nw10, cw10, mw10, cDw10, rfl, hm, _, hd, ho, hf⟩
  have hln := hd.len
  obtain rfl : nw10 = 0 := hln
  obtain rfl : mw10 = 1 := hm
  have hBn := below_dfr hB HD.out hf hB.size
  have HEn := Lib.hid (HE.out.other HD.out hf hne)
  have hs4 := ho.sl
  clear HD HE hB ho hf
  have HD := Lib.hid hd
  have HE := HEn
  have hB := hBn
  clear hd HEn hBn
  go_wp2_with fail
  have hal : Below w10.heap.size w10 (w10.alloc (.cells #[.int .i32 8364, .int .i64 3] 26)) := (Below.refl _ _).alloc (Nat.le_refl _) _
  have HDn := Lib.hid (HD.out.below hal)
  have HEn := Lib.hid (HE.out.below hal)
  have hBn := hB.trans (hal.mono hB.size)
  have hnew : Sl (w10.alloc (.cells #[.int .i32 8364, .int .i64 3] 26)) (some ⟨w10.heap.size, 0, none⟩) [.int .i32 8364, .int .i64 3] := Sl.new rfl rfl
  have hsn := hs4.below hal
  clear hs4
  have hs4 := hsn
  clear hsn
  clear HD HE hB hal
  generalize w10.alloc (.cells #[.int .i32 8364, .int .i64 3] 26) = w11 at *
  generalize w10.heap.size = aw11 at *
  have HD := HDn
  have HE := HEn
  have hB := hBn
  clear HDn HEn hBn
  refine (sameG_true Dw10 (some ⟨aw11, 0, none⟩) 1 1 cDw10 1 [(8364, 3)] w11 rfl rfl (by decide) hs4 hnew).mono ?_
  rintro e wq ⟨rfl, q, rfl⟩
  have HDn := Lib.hid (HD.out.drewN q)
  have HEn := Lib.hid (HE.out.drewN q)
  have hBn := below_drewN hB q
  clear HD HE hB hs4 hnew
  generalize w11.drewN q = w11q at *
  have HD := HDn
  have HE := HEn
  have hB := hBn
  clear HDn HEn hBn
  go_wp2_with fail
  have hal : Below w11q.heap.size w11q (w11q.alloc (.cells #[.int .u8 226, .int .u8 97] 5)) := (Below.refl _ _).alloc (Nat.le_refl _) _
  have HDn := Lib.hid (HD.out.below hal)
  have HEn := Lib.hid (HE.out.below hal)
  have hBn := hB.trans (hal.mono hB.size)
  have hnew : Sl (w11q.alloc (.cells #[.int .u8 226, .int .u8 97] 5)) (some ⟨w11q.heap.size, 0, none⟩) [.int .u8 226, .int .u8 97] := Sl.new rfl rfl
  clear HD HE hB hal
  generalize w11q.alloc (.cells #[.int .u8 226, .int .u8 97] 5) = w12 at *
  generalize w11q.heap.size = aw12 at *
  have HD := HDn
  have HE := HEn
  have hB := hBn
  clear HDn HEn hBn
  refine (of_bad [226, 97] (some ⟨aw12, 0, none⟩) 2 2 w12 rfl (by decide) hnew (by decide) (by decide +kernel)).mono ?_
  rintro e wq ⟨rfl, rfl⟩
  clear hnew
  go_wp2_with fail
  have hal : Below w12.heap.size w12 (w12.alloc (.cells #[.int .u8 237, .int .u8 160] 5)) := (Below.refl _ _).alloc (Nat.le_refl _) _
  have HDn := Lib.hid (HD.out.below hal)
  have HEn := Lib.hid (HE.out.below hal)
  have hBn := hB.trans (hal.mono hB.size)
  have hnew : Sl (w12.alloc (.cells #[.int .u8 237, .int .u8 160] 5)) (some ⟨w12.heap.size, 0, none⟩) [.int .u8 237, .int .u8 160] := Sl.new rfl rfl
  clear HD HE hB hal
  generalize w12.alloc (.cells #[.int .u8 237, .int .u8 160] 5) = w13 at *
  generalize w12.heap.size = aw13 at *
  have HD := HDn
  have HE := HEn
  have hB := hBn
  clear HDn HEn hBn
  refine (of_bad [237, 160] (some ⟨aw13, 0, none⟩) 2 2 w13 rfl (by decide) hnew (by decide) (by decide +kernel)).mono ?_
  rintro e wq ⟨rfl, rfl⟩
  clear hnew
  go_wp2_with fail
  have hal : Below w13.heap.size w13 (w13.alloc (.cells #[.int .u8 244, .int .u8 143] 5)) := (Below.refl _ _).alloc (Nat.le_refl _) _
  have HDn := Lib.hid (HD.out.below hal)
  have HEn := Lib.hid (HE.out.below hal)
  have hBn := hB.trans (hal.mono hB.size)
  have hnew : Sl (w13.alloc (.cells #[.int .u8 244, .int .u8 143] 5)) (some ⟨w13.heap.size, 0, none⟩) [.int .u8 244, .int .u8 143] := Sl.new rfl rfl
  clear HD HE hB hal
  generalize w13.alloc (.cells #[.int .u8 244, .int .u8 143] 5) = w14 at *
  generalize w13.heap.size = aw14 at *
  have HD := HDn
  have HE := HEn
  have hB := hBn
  clear HDn HEn hBn
  refine (of_ok [244, 143] (some ⟨aw14, 0, none⟩) 2 2 w14 rfl (by decide) hnew (.inr (by decide +kernel))).mono ?_
  unfold OfEnds
  rintro e w14q ⟨po, Lo, co, rfl, _, bo⟩
  have HDn := Lib.hid (HD.out.below bo)
  have HEn := Lib.hid (HE.out.below bo)
  have hBn := hB.trans (bo.mono hB.size)
  clear HD HE hB bo hnew
  have HD := HDn
  have HE := HEn
  have hB := hBn
  clear HDn HEn hBn
  go_wp2_with fail
  clear HD
  refine (byteC w.heap.size p2 0 0 none [] 226 226 rfl _ runs_1 w14q HE.out (by decide) hB.size).mono ?_
  unfold ByteEnds
  rintro e w15 ⟨Lw15, Dw15, nw15, cw15, mw15, cDw15, rfl, hm, _, hd, ho, hf⟩
  have hln := hd.len
  obtain rfl : nw15 = 1 := hln
  obtain rfl : mw15 = 0 := hm
  have hBn := below_dfr hB HE.out hf hB.size
  have hs4 := ho.sl
  clear HE hB ho hf
  have HE := Lib.hid hd
  have hB := hBn
  clear hd hBn
  go_wp2_with fail
  clear hs4
  refine (byteC w.heap.size p2 1 cw15 Lw15 [226] 97 97 rfl _ runs_4 w15 HE.out (by decide) hB.size).mono ?_
  unfold ByteEnds
  rintro e w16 ⟨Lw16, Dw16, nw16, cw16, mw16, cDw16, rfl, hm, _, hd, ho, hf⟩
  have hln := hd.len
  obtain rfl : nw16 = 0 := hln
  obtain rfl : mw16 = 2 := hm
  have hBn := below_dfr hB HE.out hf hB.size
  have hs4 := ho.sl
  clear HE hB ho hf
  have HE := Lib.hid hd
  have hB := hBn
  clear hd hBn
  go_wp2_with fail
  have hal : Below w16.heap.size w16 (w16.alloc (.cells #[.int .i32 65533, .int .i64 1, .int .i32 97, .int .i64 1] 26)) := (Below.refl _ _).alloc (Nat.le_refl _) _
  have HEn := Lib.hid (HE.out.below hal)
  have hBn := hB.trans (hal.mono hB.size)
  have hnew : Sl (w16.alloc (.cells #[.int .i32 65533, .int .i64 1, .int .i32 97, .int .i64 1] 26)) (some ⟨w16.heap.size, 0, none⟩) [.int .i32 65533, .int .i64 1, .int .i32 97, .int .i64 1] := Sl.new rfl rfl
  have hsn := hs4.below hal
  clear hs4
  have hs4 := hsn
  clear hsn
  clear HE hB hal
  generalize w16.alloc (.cells #[.int .i32 65533, .int .i64 1, .int .i32 97, .int .i64 1] 26) = w17 at *
  generalize w16.heap.size = aw17 at *
  have HE := HEn
  have hB := hBn
  clear HEn hBn
  refine (sameG_true Dw16 (some ⟨aw17, 0, none⟩) 2 2 cDw16 2 [(65533, 1), (97, 1)] w17 rfl rfl (by decide) hs4 hnew).mono ?_
  rintro e wq ⟨rfl, q, rfl⟩
  have HEn := Lib.hid (HE.out.drewN q)
  have hBn := below_drewN hB q
  clear HE hB hs4 hnew
  generalize w17.drewN q = w17q at *
  have HE := HEn
  have hB := hBn
  clear HEn hBn
  go_wp2_with fail
  go_ret
  exact ⟨rfl, hB⟩
end Go.Proofs.Ytepmnhlfjidhjaa
