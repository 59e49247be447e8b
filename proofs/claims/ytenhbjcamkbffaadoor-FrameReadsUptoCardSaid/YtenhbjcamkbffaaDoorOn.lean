/-
  The contracts of sum.On and of the document's own On: the sum of bytes, gone on with from any sum.
-/
import Derived.Test.YtenhbjcamkbffaaDoorMem
import Derived.Test.YtenhbjcamkbffaaDoorCrc
import Derived.Deep.QuietTactic
import Derived.BigQuiet
import Derived.Lib.Hide
namespace Go.Proofs.YtenhbjcamkbffaaDoor
open Go.RowKit Go.Mem

/-- the two tables, as the row lists them -/
def Tabs (w : World) : Prop :=
  (∀ j, j < 16 → w.cell? ⟨0, j, none⟩ = some (.int .u32 ((Crc.low j).toNat : Int))) ∧ (∀ j, j < 16 → w.cell? ⟨1, j, none⟩ = some (.int .u32 ((Crc.high j).toNat : Int)))
theorem Tabs.lt {w : World} (h : Tabs w) : 0 < w.heap.size ∧ 1 < w.heap.size := ⟨lt_of_cell (h.1 0 (by decide)), lt_of_cell (h.2 0 (by decide))⟩
theorem Tabs.keep {w w' : World} (h : Tabs w) (hk : ∀ b o, b < w.heap.size → w'.cell? ⟨b, o, none⟩ = w.cell? ⟨b, o, none⟩) : Tabs w' :=
  ⟨fun j hj => (hk _ _ h.lt.1).trans (h.1 j hj), fun j hj => (hk _ _ h.lt.2).trans (h.2 j hj)⟩
theorem Tabs.below {w w' : World} (h : Tabs w) (hb : Below w.heap.size w w') : Tabs w' := h.keep fun b o hl => hb.cell (p := ⟨b, o, none⟩) hl

theorem allOnes_eq : BitVec.allOnes 32 = 0xFFFFFFFF#32 := rfl
theorem bx (a b : BitVec 32) : bits .xor .u32 (a.toNat : Int) (b.toNat : Int) = ((a ^^^ b).toNat : Int) := by
  rw [u32_xor_nat _ _ a.isLt b.isLt, BitVec.toNat_xor]
theorem bnot (a : BitVec 32) : bits .xor .u32 IntKind.u32.max (a.toNat : Int) = ((~~~ a).toNat : Int) := by
  have h : ~~~ a = 0xFFFFFFFF#32 ^^^ a := by rw [← allOnes_eq, BitVec.allOnes_xor]
  rw [h, ← bx]; rfl
theorem bnot' (a : BitVec 32) : bits .xor .u32 (a.toNat : Int) IntKind.u32.max = ((~~~ a).toNat : Int) := by
  have h : ~~~ a = a ^^^ 0xFFFFFFFF#32 := by rw [← allOnes_eq, BitVec.xor_allOnes]
  rw [h, ← bx]; rfl
theorem bbyte (a : BitVec 32) (x : UInt8) : bits .xor .u32 (a.toNat : Int) ((x.toNat : Int) % 4294967296) = ((a ^^^ BitVec.ofNat 32 x.toNat).toNat : Int) := by
  have hx : x.toNat < 256 := x.toNat_lt
  have e : ((x.toNat : Int) % 4294967296) = ((BitVec.ofNat 32 x.toNat).toNat : Int) := by
    rw [BitVec.toNat_ofNat, Nat.mod_eq_of_lt (by omega)]; omega
  rw [e, bx]
theorem bshr (a : BitVec 32) (L : BitVec 32) : bits .xor .u32 ((a.toNat : Int) / 256) (L.toNat : Int) = (((a >>> 8) ^^^ L).toNat : Int) := by
  have e : ((a.toNat : Int) / (256 : Int)) = ((a >>> 8).toNat : Int) := by rw [BitVec.toNat_ushiftRight, Nat.shiftRight_eq_div_pow]; omega
  rw [e, bx]
theorem band (n : Nat) (h : n < 4294967296) : bits .and .u32 (n : Int) 15 = ((n &&& 15 : Nat) : Int) := u32_and_nat n 15 h (by decide)

set_option maxHeartbeats 400000 in
theorem on_calls (c : BitVec 32) (A : Option Addr) (n cap : Nat) (bs : List UInt8) (w : World) (hl : bs.length = n) (hn : n ≤ 9223372036854775807) (hT : Tabs w) (hs : Sl w A (bs.map B8)) :
    Calls Tryd.prog 32 #[.int .u32 (c.toNat : Int), .slice A n cap] w fun e w' => e = .returned (.int .u32 ((Crc.crc c bs).toNat : Int)) ∧ ∃ m, w' = w.drewN m := by
  subst hl
  have h0 := bnot c
  have HC : Hid (Crc.crc c bs = ~~~ Crc.run (~~~ c) bs) := rfl
  generalize Crc.crc c bs = res at HC
  generalize ~~~ c = cn at h0 HC
  go_enter Tryd.func32, Tryd.ntmps32
  go_wp2
  go_loopw [5, 7, 12] (fun s x i wr => ∃ (k : Nat) (r : BitVec 32), k ≤ bs.length ∧ i = .int .i64 k ∧ s = .int .u32 (r.toNat : Int) ∧ Hid (Crc.run r (bs.drop k) = Crc.run cn bs) ∧ ∃ q, wr = w.drewN q) (fun _ _ i _ => bs.length - (intOf i).toNat)
  case atStart => exact ⟨0, cn, Nat.zero_le _, rfl, rfl, rfl, 0, rfl⟩
  case round =>
    obtain ⟨k, r, hk, rfl, rfl, HE, q, rfl⟩ := hrel
    clear h0
    by_cases hlt : k < bs.length
    · obtain ⟨b, o, rfl, hca⟩ := hs.byte hlt
      have HD : Hid (bs.drop k = bs[k] :: bs.drop (k + 1)) := Lib.hid (List.drop_eq_getElem_cons hlt)
      clear hs
      generalize hx : bs[k] = x at hca HD
      clear hx
      have h1 := bbyte r x
      generalize hS : r ^^^ BitVec.ofNat 32 x.toNat = S at h1
      have HS := Lib.hid hS
      clear hS
      obtain ⟨j, hj, HJ⟩ : ∃ j, j < 16 ∧ Hid (S.toNat &&& 15 = j) := ⟨_, Nat.and_lt_two_pow (n := 4) _ (by decide), rfl⟩
      obtain ⟨i, hi, HI⟩ : ∃ i, i < 16 ∧ Hid (S.toNat / 16 &&& 15 = i) := ⟨_, Nat.and_lt_two_pow (n := 4) _ (by decide), rfl⟩
      have h2 : bits .and .u32 (S.toNat : Int) 15 = (j : Int) := by rw [band _ S.isLt]; rw [HJ.out]
      have h3 : bits .and .u32 ((S.toNat : Int) / 16) 15 = (i : Int) := by
        have e : ((S.toNat : Int) / (16 : Int)) = ((S.toNat / 16 : Nat) : Int) := by omega
        rw [e, band _ (by have := S.isLt; omega), HI.out]
      have c1 := hT.1 j hj
      have c2 := hT.2 i hi
      have h4 := bshr S (Crc.low j)
      have h5 := bx (S >>> 8 ^^^ Crc.low j) (Crc.high i)
      have j' : (j : Int) < 16 := by omega
      have i' : (i : Int) < 16 := by omega
      clear hT
      generalize hR : (S >>> 8 ^^^ Crc.low j) ^^^ Crc.high i = R at h5
      have HR := Lib.hid hR
      clear hR
      generalize hT1 : S >>> 8 ^^^ Crc.low j = T1 at h4 h5
      have HT1 := Lib.hid hT1
      clear hT1
      go_wp2_with fail
      go_quiet (fail)
      go_wp2_with fail
      go_roundw
      case rel =>
        refine ⟨k + 1, R, by omega, by go_num, rfl, ?_, _, rfl⟩
        show _ = _
        rw [← HE.out, HD.out]
        show _ = Crc.run (Crc.byte r x) _
        congr 1
        unfold Crc.byte
        rw [HS.out, Crc.cf8_eq, HJ.out, HI.out]
        exact HR.out.symm
      case measure => simp [intOf]; omega
    · have he : bs.drop k = [] := List.drop_eq_nil_of_le (by omega)
      have HF : Hid (~~~ r = res) := by show _ = _; rw [HC.out, ← HE.out, he]; rfl
      clear he HE
      have h6 := bnot r
      rw [HF.out] at h6
      go_wp2_with fail
      go_ret
      exact ⟨rfl, _, rfl⟩

theorem band1 (a : BitVec 32) : bits .and .u32 (a.toNat : Int) 1 = if a.getLsbD 0 then 1 else 0 := by
  have h1 : bits .and .u32 (a.toNat : Int) 1 = ((a.toNat &&& 1 : Nat) : Int) := u32_and_nat a.toNat 1 a.isLt (by decide)
  rw [h1, nat_mask1, BitVec.getLsbD, Nat.testBit_zero]
  rcases Nat.mod_two_eq_zero_or_one a.toNat with h | h <;> simp [h]
theorem bpoly (a : BitVec 32) (h : a.getLsbD 0 = true) : bits .xor .u32 ((a.toNat : Int) / 2) 2197175160 = ((Crc.cf a).toNat : Int) := by
  have e : ((a.toNat : Int) / (2 : Int)) = ((a >>> 1).toNat : Int) := by rw [BitVec.toNat_ushiftRight, Nat.shiftRight_eq_div_pow]; omega
  have e2 : (2197175160 : Int) = ((0x82f63b78#32).toNat : Int) := rfl
  rw [e, e2, bx]
  unfold Crc.cf
  rw [h]; rfl
theorem bpoly0 (a : BitVec 32) (h : a.getLsbD 0 = false) : (a.toNat : Int) / 2 = ((Crc.cf a).toNat : Int) := by
  have e : ((a.toNat : Int) / (2 : Int)) = ((a >>> 1).toNat : Int) := by rw [BitVec.toNat_ushiftRight, Nat.shiftRight_eq_div_pow]; omega
  rw [e]
  unfold Crc.cf
  rw [h]; simp

set_option maxHeartbeats 400000 in
theorem refOn_calls (c : BitVec 32) (A : Option Addr) (n cap : Nat) (bs : List UInt8) (w : World) (hl : bs.length = n) (hn : n ≤ 9223372036854775807) (hs : Sl w A (bs.map B8)) :
    Calls Tryd.prog 28 #[.int .u32 (c.toNat : Int), .slice A n cap] w fun e w' => e = .returned (.int .u32 ((Crc.crc c bs).toNat : Int)) ∧ w = w' := by
  subst hl
  have h0 := bnot c
  have HC : Hid (Crc.crc c bs = ~~~ Crc.run (~~~ c) bs) := rfl
  generalize Crc.crc c bs = res at HC
  generalize ~~~ c = cn at h0 HC
  go_enter Tryd.func28, Tryd.ntmps28
  go_wp2
  go_loop [5, 6] (fun s i => ∃ (k : Nat) (r : BitVec 32), k ≤ bs.length ∧ i = .int .i64 k ∧ s = .int .u32 (r.toNat : Int) ∧ Hid (Crc.run r (bs.drop k) = Crc.run cn bs)) (fun _ i => bs.length - (intOf i).toNat)
  case atStart => exact ⟨0, cn, Nat.zero_le _, rfl, rfl, rfl⟩
  case round =>
    obtain ⟨k, r, hk, rfl, rfl, HE⟩ := hrel
    clear h0
    by_cases hlt : k < bs.length
    · obtain ⟨b, o, rfl, hca⟩ := hs.byte hlt
      have HD : Hid (bs.drop k = bs[k] :: bs.drop (k + 1)) := Lib.hid (List.drop_eq_getElem_cons hlt)
      clear hs
      generalize hx : bs[k] = x at hca HD
      clear hx
      have h1 := bbyte r x
      generalize hS : r ^^^ BitVec.ofNat 32 x.toNat = S at h1
      have HS := Lib.hid hS
      clear hS
      go_wp2_with fail
      go_loop [5, 7] (fun s i => ∃ (j : Nat) (t : BitVec 32), j ≤ 8 ∧ i = .int .i64 j ∧ s = .int .u32 (t.toNat : Int) ∧ Hid (Crc.cfn (8 - j) t = Crc.cfn 8 S)) (fun _ i => 8 - (intOf i).toNat)
      case atStart => exact ⟨0, S, by omega, rfl, rfl, rfl⟩
      case round =>
        obtain ⟨j, t, hj, rfl, rfl, HT⟩ := hrel
        clear h1 hca
        by_cases hj8 : j < 8
        · have h2 := band1 t
          have HU : Hid (Crc.cfn (8 - (j + 1)) (Crc.cf t) = Crc.cfn 8 S) := by
            show _ = _
            rw [← HT.out]
            obtain ⟨m, hm⟩ : ∃ m, 8 - j = m + 1 := ⟨7 - j, by omega⟩
            rw [hm, show 8 - (j + 1) = m by omega]; rfl
          cases hb : t.getLsbD 0
          · have h3 := bpoly0 t hb
            rw [hb] at h2
            simp only [Bool.false_eq_true, if_false] at h2
            clear hb
            generalize Crc.cf t = t' at h3 HU
            go_wp2_with fail
            go_round
            case rel => exact ⟨j + 1, t', by omega, by go_num, rfl, HU⟩
            case measure => simp [intOf]; omega
          · have h3 := bpoly t hb
            rw [hb] at h2
            simp only [if_true] at h2
            clear hb
            generalize Crc.cf t = t' at h3 HU
            go_wp2_with fail
            go_round
            case rel => exact ⟨j + 1, t', by omega, by go_num, rfl, HU⟩
            case measure => simp [intOf]; omega
        · go_wp2_with fail
          go_round
          case rel =>
            refine ⟨k + 1, t, by omega, by go_num, rfl, ?_⟩
            show _ = _
            rw [← HE.out, HD.out]
            show _ = Crc.run (Crc.byte r x) _
            congr 1
            unfold Crc.byte
            rw [HS.out, ← HT.out, show 8 - j = 0 by omega]; rfl
          case measure => simp [intOf]; omega
    · have he : bs.drop k = [] := List.drop_eq_nil_of_le (by omega)
      have HF : Hid (~~~ r = res) := by show _ = _; rw [HC.out, ← HE.out, he]; rfl
      clear he HE
      have h6 := bnot r
      rw [HF.out] at h6
      go_wp2_with fail
      go_ret
      exact ⟨rfl, rfl⟩

set_option maxHeartbeats 400000 in
theorem of_calls (A : Option Addr) (n cap : Nat) (ps : List Part) (w : World) (hl : ps.length = n) (hn : n ≤ 9223372036854775807) (hT : Tabs w) (hs : Sl w A (ps.map Part.cell))
    (hp : ∀ p ∈ ps, p.bs.length ≤ 9223372036854775807 ∧ Sl w p.A (p.bs.map B8)) :
    Calls Tryd.prog 27 #[.slice A n cap] w fun e w' => e = .returned (.int .u32 ((Crc.crcs 0#32 (ps.map Part.bs)).toNat : Int)) ∧ ∃ m, w' = w.drewN m := by
  subst hl
  go_enter Tryd.func27, Tryd.ntmps27
  go_wp2
  go_loopw [3, 5, 8] (fun s x i wr => ∃ (k : Nat) (r : BitVec 32), k ≤ ps.length ∧ i = .int .i64 k ∧ s = .int .u32 (r.toNat : Int) ∧ Hid (Crc.crcs r ((ps.drop k).map Part.bs) = Crc.crcs 0#32 (ps.map Part.bs)) ∧ ∃ q, wr = w.drewN q) (fun _ _ i _ => ps.length - (intOf i).toNat)
  case atStart => exact ⟨0, 0#32, Nat.zero_le _, rfl, rfl, rfl, 0, rfl⟩
  case round =>
    obtain ⟨k, r, hk, rfl, rfl, HE, q, rfl⟩ := hrel
    by_cases hlt : k < ps.length
    · obtain ⟨b, o, rfl, hca⟩ := hs.at_ (k := k) (by simpa using hlt)
      have HD : Hid (ps.drop k = ps[k] :: ps.drop (k + 1)) := Lib.hid (List.drop_eq_getElem_cons hlt)
      have hpk := hp _ (List.getElem_mem hlt)
      rw [List.getElem_map] at hca
      clear hs hp
      generalize hx : ps[k] = x at hca HD hpk
      clear hx
      unfold Part.cell at hca
      go_wp2_with fail
      refine (on_calls r x.A x.bs.length x.cap x.bs (w.drewN q) rfl hpk.1 hT hpk.2).mono ?_
      rintro e w' ⟨rfl, m, rfl⟩
      have HX : Hid (Crc.crcs (Crc.crc r x.bs) ((ps.drop (k + 1)).map Part.bs) = Crc.crcs 0#32 (ps.map Part.bs)) := by
        show _ = _
        rw [← HE.out, HD.out]; rfl
      generalize Crc.crc r x.bs = r' at HX
      go_wp2_with fail
      go_roundw
      case rel => exact ⟨k + 1, r', by omega, by go_num, rfl, HX, _, rfl⟩
      case measure => simp [intOf]; omega
    · have HF : Hid (r = Crc.crcs 0#32 (ps.map Part.bs)) := by show _ = _; rw [← HE.out, List.drop_eq_nil_of_le (by omega)]; rfl
      clear HE
      go_wp2_with fail
      go_ret
      exact ⟨by rw [← HF.out]; rfl, _, rfl⟩
end Go.Proofs.YtenhbjcamkbffaaDoor
