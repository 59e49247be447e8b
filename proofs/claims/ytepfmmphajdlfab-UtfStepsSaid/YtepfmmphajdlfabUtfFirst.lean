/-
  The contract of spoorref7.first (written by gen/mkutf4.py).
-/
import Derived.Test.YtepfmmphajdlfabUtfRef
import Derived.Test.YtepfmmphajdlfabUtfAll
namespace Go.Proofs.Ytepfmmphajdlfab
open Go.RowKit Go.Mem

theorem fitsU_broken {bs : List UInt8} (hb : 0 < bs.length) (h : startU bs = -1) : fitsU bs = (0, 0) := by
  unfold fitsU
  rw [List.getElem?_eq_getElem hb]
  exact if_pos h
theorem fitsU_begun {bs : List UInt8} (hb : 0 < bs.length) (h : startU bs = 0) : fitsU bs = (bs.length, (shapeU (bs[0]'hb).toNat).1) := by
  unfold fitsU
  rw [List.getElem?_eq_getElem hb]
  simp only
  rw [if_neg (by omega), if_pos h]
theorem fitsU_whole {bs : List UInt8} (hb : 0 < bs.length) {n : Nat} (h : startU bs = (n : Int)) (h1 : 1 ≤ n) (h2 : n = (shapeU (bs[0]'hb).toNat).1) : fitsU bs = (n, n) := by
  unfold fitsU
  rw [List.getElem?_eq_getElem hb]
  simp only
  rw [if_neg (by omega), if_neg (by omega), ← h2]
theorem begun_lt {bs : List UInt8} (hb : 0 < bs.length) (h : startU bs = 0) : bs.length < (shapeU (bs[0]'hb).toNat).1 := by
  unfold startU at h
  rw [List.getElem?_eq_getElem hb] at h
  simp only at h
  by_cases h0 : (shapeU (bs[0]'hb).toNat).1 = 0
  · rw [if_pos h0] at h; omega
  · rw [if_neg h0] at h
    rcases tailU_cases bs (shapeU (bs[0]'hb).toNat).1 ((shapeU (bs[0]'hb).toNat).1 - 1) 1 (shapeU (bs[0]'hb).toNat).2.1 (shapeU (bs[0]'hb).toNat).2.2 (by omega) (by omega) with h2 | ⟨_, h3⟩ | ⟨h2, _⟩ <;> omega

theorem val1 : ∀ (bs : List UInt8) (_h : 1 ≤ bs.length), valN (bs.take 1) = (bs[0]'(by omega)).toNat
  | _ :: _, _ => by simp [valN]
theorem val2 : ∀ (bs : List UInt8) (_h : 2 ≤ bs.length), valN (bs.take 2) = ((bs[0]'(by omega)).toNat % 32) * 64 + (bs[1]'(by omega)).toNat % 64
  | _ :: _ :: _, _ => by simp [valN]
theorem val3 : ∀ (bs : List UInt8) (_h : 3 ≤ bs.length), valN (bs.take 3) = (((bs[0]'(by omega)).toNat % 16) * 64 + (bs[1]'(by omega)).toNat % 64) * 64 + (bs[2]'(by omega)).toNat % 64
  | _ :: _ :: _ :: _, _ => by simp [valN]
theorem val4 : ∀ (bs : List UInt8) (_h : 4 ≤ bs.length), valN (bs.take 4) = ((((bs[0]'(by omega)).toNat % 8) * 64 + (bs[1]'(by omega)).toNat % 64) * 64 + (bs[2]'(by omega)).toNat % 64) * 64 + (bs[3]'(by omega)).toNat % 64
  | _ :: _ :: _ :: _ :: _, _ => by simp [valN]
theorem below_cell (w : World) (t : TypeId) (C : Array Value) (q : Nat) (u v : Value) : Below w.heap.size w ((((w.alloc (.cells C t)).drewN q).setCell ⟨w.heap.size, 0, none⟩ u).setCell ⟨w.heap.size, 1, none⟩ v) :=
  below_only (below_only (below_drewN ((Below.refl _ _).alloc (Nat.le_refl _) _) q) (only_set (only_refl _ _) 0 u) (by simp) (Nat.le_refl _)) (only_set (only_refl _ _) 1 v) (by simp [World.setCell]) (Nat.le_refl _)

set_option maxRecDepth 100000 in
set_option maxHeartbeats 3200000 in
theorem first_calls (bs : List UInt8) (A : Option Addr) (n c : Nat) (w : World) (hl : bs.length = n) (hpos : 0 < n) (hmax : n ≤ 9223372036854775807) (hs : Sl w A (bs.map B8)) :
    Calls Try.prog 37 #[.slice A n c] w (FrontEnds w (frontU bs)) := by
  subst hl
  have hal : Below w.heap.size w (w.alloc (.cells #[.int .i32 0, .int .i64 0] 26)) := (Below.refl _ _).alloc (Nat.le_refl _) _
  have hs1 := hs.below hal
  have HFT := Lib.hid (fits_calls bs A bs.length c (w.alloc (.cells #[.int .i32 0, .int .i64 0] 26)) rfl hmax hs1)
  obtain ⟨b, o, rfl, hc0⟩ := hs1.byte hpos
  rw [Nat.add_zero] at hc0
  have hlen : (0 : Int) < (bs.length : Int) := by omega
  rcases startU_cases bs hpos with h | ⟨h, h3⟩ | ⟨n, h, h1, h4, hle, hn⟩
  · rw [fitsU_broken hpos h] at HFT
    have hF : frontU bs = (65533, 1) := by unfold frontU; rw [if_pos (by omega)]
    rw [hF]
    clear hF h
    go_enter Try.func37, Try.ntmps37
    go_wp2_with fail
    refine HFT.out.mono ?_
    rintro e w1 ⟨rfl, q, rfl⟩
    go_wp2_with fail
    exact bodyPost_ret (v := .agg #[.int .i32 65533, .int .i64 1]) (by simp [results, Try.results37, go_sem]) rfl ⟨rfl, below_cell _ _ _ _ _ _⟩
  · have hlt := begun_lt hpos h
    rw [fitsU_begun hpos h] at HFT
    generalize (shapeU (bs[0]'hpos).toNat).1 = N at HFT hlt
    have hF : frontU bs = (65533, 1) := by unfold frontU; rw [if_pos (by omega)]
    rw [hF]
    have hb0 : ((bs.length : Int) == 0) = false := beq_eq_false_iff_ne.2 (by omega)
    have hb1 : decide (bs.length < N) = true := decide_eq_true hlt
    clear hF h
    go_enter Try.func37, Try.ntmps37
    go_wp2_with fail
    refine HFT.out.mono ?_
    rintro e w1 ⟨rfl, q, rfl⟩
    go_wp2_with fail
    exact bodyPost_ret (v := .agg #[.int .i32 65533, .int .i64 1]) (by simp [results, Try.results37, go_sem]) rfl ⟨rfl, below_cell _ _ _ _ _ _⟩
  · rw [fitsU_whole hpos h h1 hn] at HFT
    have hF : frontU bs = (valN (bs.take n), n) := by unfold frontU; rw [if_neg (by omega), h]; rfl
    rw [hF]
    have hb0 : ((n : Int) == 0) = false := beq_eq_false_iff_ne.2 (by omega)
    have hb1 : decide (n < n) = false := decide_eq_false (by omega)
    clear hF h hn
    by_cases hn1 : n = 1
    · subst hn1
      rw [val1 bs hle]
      have z0 := (bs[0]'(by omega)).toNat_lt
      generalize (bs[0]'(by omega)).toNat = x0 at hc0 z0 ⊢
      clear hs hs1
      go_enter Try.func37, Try.ntmps37
      go_wp2_with fail
      refine HFT.out.mono ?_
      rintro e w1 ⟨rfl, q, rfl⟩
      go_wp2_with fail
      have hE : (x0 : Int) = ((x0 : Nat) : Int) := by omega
      exact bodyPost_ret (v := .agg #[.int .i32 ((x0 : Int)), .int .i64 1]) (by simp [results, Try.results37, go_sem]) rfl ⟨by rw [hE]; rfl, below_cell _ _ _ _ _ _⟩
    by_cases hn2 : n = 2
    · subst hn2
      rw [val2 bs hle]
      have c1 := Sl.byteAt hs1 (k := 1) (by omega)
      have b1 : (1 : Int) < (bs.length : Int) := by omega
      have z0 := (bs[0]'(by omega)).toNat_lt
      have z1 := (bs[1]'(by omega)).toNat_lt
      generalize (bs[0]'(by omega)).toNat = x0 at hc0 z0 ⊢
      generalize (bs[1]'(by omega)).toNat = x1 at c1 z1 ⊢
      clear hs hs1
      go_enter Try.func37, Try.ntmps37
      go_wp2_with fail
      refine HFT.out.mono ?_
      rintro e w1 ⟨rfl, q, rfl⟩
      go_wp2_with fail
      go_quiet (fail)
      go_wp2_with fail
      have hE : (x0 : Int) % 32 * 64 + (x1 : Int) % 64 = (((x0 % 32) * 64 + x1 % 64 : Nat) : Int) := by omega
      exact bodyPost_ret (v := .agg #[.int .i32 ((x0 : Int) % 32 * 64 + (x1 : Int) % 64), .int .i64 2]) (by simp [results, Try.results37, go_sem]) rfl ⟨by rw [hE]; rfl, below_cell _ _ _ _ _ _⟩
    by_cases hn3 : n = 3
    · subst hn3
      rw [val3 bs hle]
      have c1 := Sl.byteAt hs1 (k := 1) (by omega)
      have b1 : (1 : Int) < (bs.length : Int) := by omega
      have c2 := Sl.byteAt hs1 (k := 2) (by omega)
      have b2 : (2 : Int) < (bs.length : Int) := by omega
      have z0 := (bs[0]'(by omega)).toNat_lt
      have z1 := (bs[1]'(by omega)).toNat_lt
      have z2 := (bs[2]'(by omega)).toNat_lt
      generalize (bs[0]'(by omega)).toNat = x0 at hc0 z0 ⊢
      generalize (bs[1]'(by omega)).toNat = x1 at c1 z1 ⊢
      generalize (bs[2]'(by omega)).toNat = x2 at c2 z2 ⊢
      clear hs hs1
      go_enter Try.func37, Try.ntmps37
      go_wp2_with fail
      refine HFT.out.mono ?_
      rintro e w1 ⟨rfl, q, rfl⟩
      go_wp2_with fail
      go_quiet (fail)
      go_wp2_with fail
      have hE : (x0 : Int) % 16 * 4096 + (x1 : Int) % 64 * 64 + (x2 : Int) % 64 = ((((x0 % 16) * 64 + x1 % 64) * 64 + x2 % 64 : Nat) : Int) := by omega
      exact bodyPost_ret (v := .agg #[.int .i32 ((x0 : Int) % 16 * 4096 + (x1 : Int) % 64 * 64 + (x2 : Int) % 64), .int .i64 3]) (by simp [results, Try.results37, go_sem]) rfl ⟨by rw [hE]; rfl, below_cell _ _ _ _ _ _⟩
    · obtain rfl : n = 4 := by omega
      rw [val4 bs hle]
      have c1 := Sl.byteAt hs1 (k := 1) (by omega)
      have b1 : (1 : Int) < (bs.length : Int) := by omega
      have c2 := Sl.byteAt hs1 (k := 2) (by omega)
      have b2 : (2 : Int) < (bs.length : Int) := by omega
      have c3 := Sl.byteAt hs1 (k := 3) (by omega)
      have b3 : (3 : Int) < (bs.length : Int) := by omega
      have z0 := (bs[0]'(by omega)).toNat_lt
      have z1 := (bs[1]'(by omega)).toNat_lt
      have z2 := (bs[2]'(by omega)).toNat_lt
      have z3 := (bs[3]'(by omega)).toNat_lt
      generalize (bs[0]'(by omega)).toNat = x0 at hc0 z0 ⊢
      generalize (bs[1]'(by omega)).toNat = x1 at c1 z1 ⊢
      generalize (bs[2]'(by omega)).toNat = x2 at c2 z2 ⊢
      generalize (bs[3]'(by omega)).toNat = x3 at c3 z3 ⊢
      clear hs hs1
      go_enter Try.func37, Try.ntmps37
      go_wp2_with fail
      refine HFT.out.mono ?_
      rintro e w1 ⟨rfl, q, rfl⟩
      go_wp2_with fail
      go_quiet (fail)
      go_wp2_with fail
      have hE : (x0 : Int) % 8 * 262144 + (x1 : Int) % 64 * 4096 + (x2 : Int) % 64 * 64 + (x3 : Int) % 64 = (((((x0 % 8) * 64 + x1 % 64) * 64 + x2 % 64) * 64 + x3 % 64 : Nat) : Int) := by omega
      exact bodyPost_ret (v := .agg #[.int .i32 ((x0 : Int) % 8 * 262144 + (x1 : Int) % 64 * 4096 + (x2 : Int) % 64 * 64 + (x3 : Int) % 64), .int .i64 4]) (by simp [results, Try.results37, go_sem]) rfl ⟨by rw [hE]; rfl, below_cell _ _ _ _ _ _⟩
end Go.Proofs.Ytepfmmphajdlfab
