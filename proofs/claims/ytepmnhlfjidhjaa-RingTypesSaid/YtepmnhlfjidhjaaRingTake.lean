/-
  Rings of numbers, of texts and of pairs, side by side: Take at pairs, and what each call does to all three.
-/
import Derived.Test.YtepmnhlfjidhjaaRingP
import Derived.Test.YtepmnhlfjidhjaaRingS2
namespace Go.Proofs.Ytepmnhlfjidhjaa
open Go.RowKit Go.Mem

/-- the eight bytes of a number, the least first -/
def le8 (n : Int) : ByteArray := ⟨#[UInt8.ofNat (n % 256).toNat, UInt8.ofNat (n / 256 % 256).toNat, UInt8.ofNat (n / 65536 % 256).toNat, UInt8.ofNat (n / 16777216 % 256).toNat, UInt8.ofNat (n / 4294967296 % 256).toNat, UInt8.ofNat (n / 1099511627776 % 256).toNat, UInt8.ofNat (n / 281474976710656 % 256).toNat, UInt8.ofNat (n / 72057594037927936 % 256).toNat]⟩
def pr8 (n : Int) : Int × ByteArray := (n, le8 n)

theorem _root_.Go.Mem.Fr.far {bs : List Nat} {a w : World} {g o : Nat} (h : Fr bs a w) (hg : a.heap.size ≤ g) (v : Value) : Fr bs a (w.setCell ⟨g, o, none⟩ v) := by
  have k := (h.more (bs' := g :: bs) (fun _ hk => List.mem_cons_of_mem _ hk)).set (p := g) (o := o) (by simp) v
  exact ⟨k.os, k.tape, k.output, k.size, fun i hi hn => k.block i hi (fun hm => by
    rcases List.mem_cons.1 hm with rfl | hm
    · omega
    · exact hn hm)⟩
set_option maxRecDepth 100000 in
set_option maxHeartbeats 1600000 in
theorem takeP_calls (p g room : Nat) (xs : List (Int × ByteArray)) (w : World) (h : RgP w p g room xs) :
    Calls Try.prog 43 #[.pointer (some ⟨p, 0, none⟩)] w (RgEndsP w p g room (.tuple #[VQ (atP xs 0), .bool (decide ((0 : Int) ≤ 0 ∧ (0 : Int) < (xs.length : Int)))]) (xs.drop 1)) := by
  have hd : xs.drop (dropP xs 1) = xs.drop 1 := by
    unfold dropP
    cases xs with
    | nil => rfl
    | cons x r => rw [show (max 0 (min 1 (((x :: r).length : Nat) : Int))).toNat = 1 by simp only [List.length_cons]; omega]
  have H1 := Lib.hid (fun W (hW : RgP W p g room xs) => dropP_calls p g room xs 1 W hW (by decide))
  rw [hd] at H1
  have HH := Lib.hid h
  have HA := Lib.hid (fun W (hW : RgP W p g room xs) => atP_calls p g room xs 0 W hW)
  unfold AtEndsP at HA
  generalize atP xs 0 = y at HA
  generalize decide ((0 : Int) ≤ 0 ∧ (0 : Int) < (xs.length : Int)) = b at HA
  have hlt := h.lt
  obtain ⟨y1, y2⟩ := y
  clear hd h
  unfold VQ at HA ⊢
  go_enter Try.func43, Try.ntmps43
  go_wp2_with fail
  refine (HA.out _ (HH.out.below ((Below.refl _ _).alloc (Nat.le_refl _) _))).mono ?_
  rintro e w1 ⟨rfl, b1⟩
  have hb1 := (Blk.new w 68 #[.int .i64 0, .string ⟨#[]⟩]).below b1 (by simp)
  have hb2 := hb1.alloc (.cells #[.int .i64 y1, .string y2] 68)
  have hq2 := Blk.new w1 68 #[.int .i64 y1, .string y2]
  have HR := Lib.hid (((HH.out.below ((Below.refl _ _).alloc (Nat.le_refl _) (.cells #[.int .i64 0, .string ⟨#[]⟩] 68))).below b1).below ((Below.refl _ _).alloc (Nat.le_refl _) (.cells #[.int .i64 y1, .string y2] 68)))
  have F2 : Fr [p, g] w (w1.alloc (.cells #[.int .i64 y1, .string y2] 68)) := (((Fr.refl _ _).alloc _).trans (Fr.of_below b1)).alloc _
  have hlt1 : w.heap.size < w1.heap.size := by have := b1.size; simp at this; omega
  clear hb1 b1 HA HH
  obtain ⟨hp0, hg0⟩ := hlt
  go_wp2_with fail
  refine (H1.out _ HR.out).mono ?_
  unfold RgEndsP
  rintro e w3 ⟨rfl, h3, f3⟩
  have hb3 := hb2.fr f3 (by simp; omega)
  have hq3 := hq2.fr f3 (by simp; omega)
  have F3 := F2.trans f3
  have H3 := Lib.hid h3
  clear hb2 hq2 HR F2 f3 h3 H1
  generalize hqe : w.heap.size = q at *
  have HQ := Lib.hid hqe
  clear hqe
  generalize w1.heap.size = q1 at *
  have c0 := hq3.cell 0
  have c1 := hq3.cell 1
  have b0 := hb3.cell 0
  have b1 := hb3.cell 1
  have f0 := hb3.frozen 0
  have f1 := hb3.frozen 1
  simp only [List.getElem?_cons_zero, List.getElem?_cons_succ] at c0 c1 b0 b1
  have HF := Lib.hid F3
  clear hb3 hq3 F3
  go_wp2_with fail
  (try simp only [Exit.inBlock, Exit.then])
  have HFin : Hid (Fr [p, g] w ((w3.setCell ⟨q, 0, none⟩ (.int .i64 y1)).setCell ⟨q, 1, none⟩ (.string y2))) := (show Fr _ _ _ from (HF.out.far (Nat.le_of_eq HQ.out) _).far (Nat.le_of_eq HQ.out) _)
  have HR : Hid (RgP ((w3.setCell ⟨q, 0, none⟩ (.int .i64 y1)).setCell ⟨q, 1, none⟩ (.string y2)) p g room (List.drop 1 xs)) := (show RgP _ _ _ _ _ from H3.out.fr (((Fr.refl [q] w3).set (p := q) (o := 0) (by simp) _).set (p := q) (o := 1) (by simp) _) (by simp; omega) (by simp; omega))
  refine bodyPost_ret (v := .tuple #[.agg #[.int .i64 y1, .string y2], .bool b]) ?_ rfl ⟨rfl, HR.out, HFin.out⟩
  rw [results_cell_tmp rfl]
  go_simp
end Go.Proofs.Ytepmnhlfjidhjaa
