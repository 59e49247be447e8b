/-
  The law's own 'put', further: a list, and what is no item.
-/
import Derived.Test.YtjmiejcgahajfaaWirePutLaw
namespace Go.Proofs.Ytjmiejcgahajfaa
open Go.RowKit Go.Mem

set_option maxHeartbeats 4000000 in
theorem putNone_calls (A : Option Addr) (n cap : Nat) (bs : List UInt8) (k x m : Int) (s : ByteArray) (f : Bool) (L : Option Addr) (ln lc : Nat) (w : World) (hl : bs.length = n) (hs : Sl w A (bs.map B8)) (hn : n ≤ 70368744177664) (hk : k ≠ 1 ∧ k ≠ 2 ∧ k ≠ 3 ∧ k ≠ 4 ∧ k ≠ 5) :
    Calls Try.prog 24 #[.slice A n cap, itVal k x m s f L ln lc] w (PutB w bs) := by
  obtain ⟨i0, hi, hz0, hz1, hz2⟩ := info_parts infoU8
  obtain ⟨h1, h2, h3, h4, h5⟩ := hk
  have e1 : (k == 1) = false := beq_eq_false_iff_ne.2 h1
  have e2 : (k == 2) = false := beq_eq_false_iff_ne.2 h2
  have e3 : (k == 3) = false := beq_eq_false_iff_ne.2 h3
  have e4 : (k == 4) = false := beq_eq_false_iff_ne.2 h4
  have e5 : (k == 5) = false := beq_eq_false_iff_ne.2 h5
  clear h1 h2 h3 h4 h5
  have hlm : (bs.map B8).length = n := by rw [List.length_map]; exact hl
  have hB0 : Below w.heap.size w ((w.alloc (.cells #[.int .i64 k, .int .i64 x, .int .i64 m, .string s, .bool f, .slice L ln lc] 43)).alloc (.cells #[] 5)) := ((Below.refl _ _).alloc (Nat.le_refl _) _).alloc (by simp) _
  unfold itVal
  go_enter Try.func24, Try.ntmps24
  go_wp2_with (at_builtin; refine wpList_append_ownB (o := ⟨some 69, _, _, _, _, _⟩) rfl (.tmp 67) (.tmp 68) 23 23 rfl 5 i0 (.int .u8 0) 1 1 Try.underlying23 hi hz0 hz1 hz2 rfl w.heap.size _ 0 0 [] rfl (OwnB.empty (by simp) (by omega)) (.slice A n cap) rfl n (bs.map B8) (srcSl Try.underlying23 hlm ((hs.alloc _).alloc _) (bytes_one _)) (by omega) (by omega) w hB0 (by simp; omega) ?_)
  intro w1 D1 c1 HO1 hb1 hz1'
  clear hz1' hB0
  have hbz := hb1.size
  go_wp2_with (at_builtin; refine wpList_append_ownB (o := ⟨some 72, _, _, _, _, _⟩) rfl (.tmp 70) (.tmp 71) 23 23 rfl 5 i0 (.int .u8 0) 1 1 Try.underlying23 hi hz0 hz1 hz2 rfl w1.heap.size _ 0 0 [] rfl (OwnB.empty rfl (Nat.le_refl _)) (.slice A n cap) rfl n (bs.map B8) (srcSl Try.underlying23 hlm ((hs.below hb1).alloc _) (bytes_one _)) (by omega) (by omega) w1 ((Below.refl _ _).alloc (Nat.le_refl _) _) (by simp) ?_)
  intro w2 D2 c2 HO2 hb2 hz2'
  have hb3 := hb1.trans (hb2.mono hb1.size)
  have o1 := HO1.out.below hb2
  have o2 := HO2.out.mono hbz
  clear hz2' hb2 hb1 HO1 HO2 hbz
  go_wp2_with fail
  go_ret2
  refine ⟨D1, n, c1, D2, n, c2, ?_, ?_, ?_, hb3⟩
  · simp
  · simpa using o1
  · simpa using o2

set_option maxHeartbeats 4000000 in
theorem putList_calls (A : Option Addr) (n cap : Nat) (bs : List UInt8) (x m : Int) (s : ByteArray) (f : Bool) (L : Option Addr) (ln lc : Nat) (zs : List Int) (w : World) (hl : bs.length = n) (hs : Sl w A (bs.map B8)) (hzl : zs.length = ln) (hz : ∀ z ∈ zs, inI64 z) (hL : Sl w L (zs.map I64)) (hn : n + 9 * (ln + 2) ≤ 70368744177664) :
    Calls Try.prog 24 #[.slice A n cap, itVal 5 x m s f L ln lc] w (PutB w (bs ++ (Wire.num ln ++ encs zs))) := by
  subst hzl
  have H1 : Hid (∀ W, Below w.heap.size w W → Calls Try.prog 38 #[.slice A n cap, .int .i64 (zs.length : Int)] W fun e w' => ∃ D n c, e = .returned (.slice D n c) ∧ OwnB w' w.heap.size 5 1 D n c ((bs ++ Wire.num zs.length).map B8) ∧ Below W.heap.size W w') := fun W hW => (refNum_calls A n cap bs zs.length W hl (by omega) (hs.below hW) (by omega)).mono fun e w' ⟨D, n, c, he, ho, hb⟩ => ⟨D, n, c, he, (by rw [Int.toNat_natCast] at ho; exact ho.mono hW.size), hb⟩
  have H2 : Hid (∀ W, Below w.heap.size w W → Calls Try.prog 14 #[.slice A n cap, .slice L zs.length lc, .func (.func 15) #[] #[]] W fun e w' => ∃ D n c, e = .returned (.slice D n c) ∧ OwnB w' w.heap.size 5 1 D n c ((bs ++ (Wire.num zs.length ++ encs zs)).map B8) ∧ Below W.heap.size W w') := fun W hW => (list_calls A L n zs.length cap lc bs zs W hl rfl hz (hs.below hW) (hL.below hW) (by omega)).mono fun e w' ⟨D, n, c, he, ho, hb⟩ => ⟨D, n, c, he, ho.mono hW.size, hb⟩
  have HL := Lib.hid hL
  have HZ := Lib.hid hz
  clear hL hz hs
  unfold itVal
  go_enter Try.func24, Try.ntmps24
  go_wp2_with fail
  have hB0 : Below w.heap.size w (w.alloc (.cells #[.int .i64 5, .int .i64 x, .int .i64 m, .string s, .bool f, .slice L zs.length lc] 43)) := (Below.refl _ _).alloc (Nat.le_refl _) _
  have hc0 := (Blk.new w 43 #[.int .i64 5, .int .i64 x, .int .i64 m, .string s, .bool f, .slice L zs.length lc]).cell 5
  have hlt := (Blk.new w 43 #[.int .i64 5, .int .i64 x, .int .i64 m, .string s, .bool f, .slice L zs.length lc]).lt
  simp only [List.getElem?_cons_zero, List.getElem?_cons_succ] at hc0
  refine (H1.out _ hB0).mono ?_
  rintro e w1 ⟨D1, n1, c1, rfl, o1, b1⟩
  have hc1 := (b1.cell (p := ⟨w.heap.size, 5, none⟩) hlt).trans hc0
  have hB1 := hB0.trans (b1.mono hB0.size)
  have hlt1 : w.heap.size < w1.heap.size := Nat.lt_of_lt_of_le hlt b1.size
  have HO1 := Lib.hid o1
  clear b1 hB0 hc0 hlt o1 H1
  go_wp2_with fail
  go_loopw [6, 7] (fun v i wr => ∃ (j : Nat) (D : Option Addr) (N c : Nat), j ≤ zs.length ∧ i = .int .i64 j ∧ v = .slice D N c ∧ Hid (OwnB wr w.heap.size 5 1 D N c ((bs ++ (Wire.num zs.length ++ encs (zs.take j))).map B8)) ∧ Below w.heap.size w wr ∧ wr.cell? ⟨w.heap.size, 5, none⟩ = some (.slice L zs.length lc) ∧ w.heap.size < wr.heap.size) (fun _ i _ => zs.length - (intOf i).toNat)
  case atStart => exact ⟨0, D1, n1, c1, Nat.zero_le _, rfl, rfl, (by have h := HO1.out; show OwnB _ _ _ _ _ _ _ _; simpa [encs] using h), hB1, hc1, hlt1⟩
  case round =>
    obtain ⟨j, D, N, c, hj, rfl, rfl, HO, hb, hc, hsz⟩ := hrel
    clear hB1 HO1 hc1 hlt1
    have hN : N ≤ n + 9 + 9 * j := by
      have h1 := (OwnB.bytes HO.out)
      have h2 := encs_le (zs.take j) (fun z hz' => HZ.out z (List.mem_of_mem_take hz'))
      have h3 := Wire.nb_le zs.length (by omega)
      simp only [List.length_append, Wire.num_length, List.length_take] at h1 h2
      omega
    by_cases hlt : j < zs.length
    · obtain ⟨b, o, rfl, hca⟩ := (HL.out.below hb).at_ (k := j) (by simpa using hlt)
      have hzk := HZ.out _ (List.getElem_mem hlt)
      have HE : Hid (encs (zs.take (j + 1)) = encs (zs.take j) ++ Wire.num zs[j].toNat) := by
        show _ = _
        rw [List.take_succ_eq_append_getElem hlt, encs_snoc]
      rw [List.getElem_map] at hca
      generalize zs[j] = z at hca hzk HE
      unfold I64 at hca
      have HP := Lib.hid (refNum_calls D N c (bs ++ (Wire.num zs.length ++ encs (zs.take j))) z wr (OwnB.bytes HO.out) hzk HO.out.sl (by omega))
      clear hzk
      go_wp2_with fail
      refine HP.out.mono ?_
      rintro e w2 ⟨D2, N2, c2', rfl, ho2, hb2⟩
      have HO2 : Hid (OwnB w2 w.heap.size 5 1 D2 N2 c2' ((bs ++ (Wire.num zs.length ++ encs (zs.take (j + 1)))).map B8)) := by
        have h := ho2.mono hb.size
        rw [HE.out]
        show OwnB _ _ _ _ _ _ _ _
        simpa using h
      have hb3 := hb.trans (hb2.mono hb.size)
      have hc2 := (hb2.cell (p := ⟨w.heap.size, 5, none⟩) hsz).trans hc
      have hsz2 := Nat.lt_of_lt_of_le hsz hb2.size
      clear ho2 HO hb hb2 hca HP HE hc hsz
      go_wp2_with fail
      go_roundw
      case rel => exact ⟨j + 1, D2, N2, c2', by omega, by go_num, rfl, HO2, hb3, hc2, hsz2⟩
      case measure => simp [intOf]; omega
    · have hfull : zs.take j = zs := List.take_of_length_le (by omega)
      rw [hfull] at HO
      clear hfull
      go_wp2_with fail
      refine (H2.out _ hb).mono ?_
      rintro e w2 ⟨D2, N2, c2', rfl, ho2, hb2⟩
      have o1 := HO.out.below hb2
      have hb3 := hb.trans (hb2.mono hb.size)
      clear HO hb hb2 hc
      go_wp2_with fail
      go_ret2
      exact ⟨D2, N2, c2', D, N, c, rfl, ho2, o1, hb3⟩
end Go.Proofs.Ytjmiejcgahajfaa
