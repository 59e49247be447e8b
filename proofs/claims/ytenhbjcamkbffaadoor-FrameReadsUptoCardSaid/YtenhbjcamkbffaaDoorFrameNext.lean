/-
  The contracts of frame.word and Next, and of the document's own Next.
-/
import Derived.Test.YtenhbjcamkbffaaDoorFrame
import Derived.Deep.QuietTactic
import Derived.BigQuiet
import Derived.Laws.Bits
import Derived.Laws.BitsAllLaws
import Derived.Test.YtenhbjcamkbffaaDoorKeep
import Derived.Deep.RegionHeld3
namespace Go.Proofs.YtenhbjcamkbffaaDoor
open Go.RowKit Go.Mem

theorem Sl.byteAt {w : World} {b o : Nat} {bs : List UInt8} (h : Sl w (some ⟨b, o, none⟩) (bs.map B8)) {k : Nat} (hk : k < bs.length) : w.cell? ⟨b, o + k, none⟩ = some (.int .u8 (bs[k].toNat : Int)) := by
  obtain ⟨b2, o2, e, hc⟩ := h.byte hk
  obtain ⟨rfl, rfl⟩ : b = b2 ∧ o = o2 := by injection e with e; injection e with e1 e2; exact ⟨e1, e2⟩
  exact hc
theorem or_sum (k a b : Nat) (hb : b < 2 ^ k) : (a * 2 ^ k ||| b) = a * 2 ^ k + b := by
  rw [Nat.mul_comm, ← Nat.two_pow_add_eq_or_of_lt hb]
theorem i64_or_nat (a b : Nat) (ha : a < 4294967296) (hb : b < 4294967296) : bits .or .i64 (a : Int) (b : Int) = ((a ||| b : Nat) : Int) := by
  have hx : a ||| b < 2 ^ 32 := Nat.or_lt_two_pow (by omega) (by omega)
  have h1 : (BitVec.ofInt 64 (a : Int)).toNat = a := by rw [BitVec.ofInt_natCast, BitVec.toNat_ofNat]; omega
  have h2 : (BitVec.ofInt 64 (b : Int)).toNat = b := by rw [BitVec.ofInt_natCast, BitVec.toNat_ofNat]; omega
  show IntKind.i64.wrap ((BitVec.ofInt 64 (a : Int) ||| BitVec.ofInt 64 (b : Int)).toNat : Int) = _
  rw [BitVec.toNat_or, h1, h2]
  exact IntWalk.i64_in _ (by omega)
theorem word_or (x0 x1 x2 x3 : Nat) (h0 : x0 < 256) (h1 : x1 < 256) (h2 : x2 < 256) (h3 : x3 < 256) :
    (bits .or .u32 ((x0 : Int) * 16777216) ((x1 : Int) * 65536) = ((x0 * 16777216 + x1 * 65536 : Nat) : Int) ∧ bits .or .u32 ((x0 * 16777216 + x1 * 65536 : Nat) : Int) ((x2 : Int) * 256) = ((x0 * 16777216 + x1 * 65536 + x2 * 256 : Nat) : Int) ∧ bits .or .u32 ((x0 * 16777216 + x1 * 65536 + x2 * 256 : Nat) : Int) (x3 : Int) = ((x0 * 16777216 + x1 * 65536 + x2 * 256 + x3 : Nat) : Int)) ∧
    (bits .or .i64 ((x0 : Int) * 16777216) ((x1 : Int) * 65536) = ((x0 * 16777216 + x1 * 65536 : Nat) : Int) ∧ bits .or .i64 ((x0 * 16777216 + x1 * 65536 : Nat) : Int) ((x2 : Int) * 256) = ((x0 * 16777216 + x1 * 65536 + x2 * 256 : Nat) : Int) ∧ bits .or .i64 ((x0 * 16777216 + x1 * 65536 + x2 * 256 : Nat) : Int) (x3 : Int) = ((x0 * 16777216 + x1 * 65536 + x2 * 256 + x3 : Nat) : Int)) := by
  have e0 : ((x0 : Int) * 16777216) = ((x0 * 16777216 : Nat) : Int) := by omega
  have e1 : ((x1 : Int) * 65536) = ((x1 * 65536 : Nat) : Int) := by omega
  have e2 : ((x2 : Int) * 256) = ((x2 * 256 : Nat) : Int) := by omega
  have s1 : (x0 * 16777216 ||| x1 * 65536) = x0 * 16777216 + x1 * 65536 := or_sum 24 x0 (x1 * 65536) (by omega)
  have s2 : ((x0 * 16777216 + x1 * 65536) ||| x2 * 256) = x0 * 16777216 + x1 * 65536 + x2 * 256 := by
    have := or_sum 16 (x0 * 256 + x1) (x2 * 256) (by omega)
    have e : (x0 * 256 + x1) * 2 ^ 16 = x0 * 16777216 + x1 * 65536 := by omega
    rw [e] at this; exact this
  have s3 : ((x0 * 16777216 + x1 * 65536 + x2 * 256) ||| x3) = x0 * 16777216 + x1 * 65536 + x2 * 256 + x3 := by
    have := or_sum 8 (x0 * 65536 + x1 * 256 + x2) x3 (by omega)
    have e : (x0 * 65536 + x1 * 256 + x2) * 2 ^ 8 = x0 * 16777216 + x1 * 65536 + x2 * 256 := by omega
    rw [e] at this; exact this
  rw [e0, e1, e2]
  refine ⟨⟨?_, ?_, ?_⟩, ⟨?_, ?_, ?_⟩⟩
  · rw [u32_or_nat _ _ (by omega) (by omega), s1]
  · rw [u32_or_nat _ _ (by omega) (by omega), s2]
  · rw [u32_or_nat _ _ (by omega) (by omega), s3]
  · rw [i64_or_nat _ _ (by omega) (by omega), s1]
  · rw [i64_or_nat _ _ (by omega) (by omega), s2]
  · rw [i64_or_nat _ _ (by omega) (by omega), s3]

theorem word_ors (x0 x1 x2 x3 : Nat) (h0 : x0 < 256) (h1 : x1 < 256) (h2 : x2 < 256) (h3 : x3 < 256) : ∃ s1 s2 : Int,
    (bits .or .u32 ((x0 : Int) * 16777216) ((x1 : Int) * 65536) = s1 ∧ bits .or .u32 s1 ((x2 : Int) * 256) = s2 ∧ bits .or .u32 s2 (x3 : Int) = ((x0 * 16777216 + x1 * 65536 + x2 * 256 + x3 : Nat) : Int)) ∧
    (bits .or .i64 ((x0 : Int) * 16777216) ((x1 : Int) * 65536) = s1 ∧ bits .or .i64 s1 ((x2 : Int) * 256) = s2 ∧ bits .or .i64 s2 (x3 : Int) = ((x0 * 16777216 + x1 * 65536 + x2 * 256 + x3 : Nat) : Int)) :=
  ⟨_, _, (word_or x0 x1 x2 x3 h0 h1 h2 h3).1, (word_or x0 x1 x2 x3 h0 h1 h2 h3).2⟩
set_option maxRecDepth 100000 in
set_option maxHeartbeats 1600000 in
theorem word_calls (A : Option Addr) (n c : Nat) (bs : List UInt8) (w : World) (hl : bs.length = n) (h4 : 4 ≤ n) (hs : Sl w A (bs.map B8)) :
    Calls Tryd.prog 30 #[.slice A n c] w fun e w' => e = .returned (.int .u32 (Frm.unword bs : Int)) ∧ ∃ q, w' = w.drewN q := by
  subst hl
  match bs, h4 with
  | x0 :: x1 :: x2 :: x3 :: r, _ =>
    obtain ⟨b, o, rfl, c0⟩ := hs.byte (k := 0) (by simp)
    have c1 := Go.Proofs.YtenhbjcamkbffaaDoor.Sl.byteAt hs (k := 1) (by simp)
    have c2 := Go.Proofs.YtenhbjcamkbffaaDoor.Sl.byteAt hs (k := 2) (by simp)
    have c3 := Go.Proofs.YtenhbjcamkbffaaDoor.Sl.byteAt hs (k := 3) (by simp)
    simp only [List.getElem_cons_zero, List.getElem_cons_succ, Nat.add_zero] at c0 c1 c2 c3
    have l0 := x0.toNat_lt
    have l1 := x1.toNat_lt
    have l2 := x2.toNat_lt
    have l3 := x3.toNat_lt
    have HV : Hid (Frm.unword (x0 :: x1 :: x2 :: x3 :: r) = x0.toNat * 16777216 + x1.toNat * 65536 + x2.toNat * 256 + x3.toNat) := (show _ = _ from rfl)
    generalize Frm.unword (x0 :: x1 :: x2 :: x3 :: r) = V at HV
    have hlen : 4 ≤ (x0 :: x1 :: x2 :: x3 :: r).length := by simp
    generalize (x0 :: x1 :: x2 :: x3 :: r).length = N at hlen
    obtain ⟨s1, s2, ⟨o1, o2, o3⟩, _⟩ := word_ors x0.toNat x1.toNat x2.toNat x3.toNat l0 l1 l2 l3
    rw [← HV.out] at o3
    clear hs HV
    go_enter Tryd.func30, Tryd.ntmps30
    go_wp2_with fail
    go_quiet (fail)
    go_wp2_with fail
    go_ret
    exact ⟨rfl, _, rfl⟩

/-- what Next answers: the payload, where it ends, or why there is none -/
def nextF (bs : List UInt8) (k : Nat) : List UInt8 × Int × Nat := ((Frm.front (bs.drop k)).1, (if (Frm.front (bs.drop k)).2.2 = 0 then (k : Int) + ((Frm.front (bs.drop k)).2.1 : Int) else 0), (Frm.front (bs.drop k)).2.2)
def NextEnds (w : World) (v : List UInt8 × Int × Nat) (e : Ending) (w' : World) : Prop := ∃ (D : Option Addr) (c : Nat), e = .returned (.tuple #[.slice D v.1.length c, .int .i64 v.2.1, .int .i64 (v.2.2 : Int)]) ∧ OwnB w' w.heap.size 5 1 D v.1.length c (v.1.map B8) ∧ Below w.heap.size w w'
theorem NextEnds.err {w w' : World} (k : Nat) (hb : Below w.heap.size w w') : NextEnds w ([], 0, k) (.returned (.tuple #[.slice none 0 0, .int .i64 0, .int .i64 (k : Int)])) w' := ⟨none, 0, rfl, OwnB.nil _ _ _ _, hb⟩
theorem nextF_err {bs : List UInt8} {k e : Nat} (h : Frm.front (bs.drop k) = ([], 0, e)) (he : e ≠ 0) : nextF bs k = ([], 0, e) := by
  unfold nextF; rw [h]; simp [he]
theorem Sl.cutAt {w : World} {b o k cap : Nat} {bs : List UInt8} (h : Sl w (some ⟨b, o, none⟩) (bs.map B8)) (hl : bs.length ≤ cap) (hk : k < cap) : Sl w (some ⟨b, o + k, none⟩) ((bs.drop k).map B8) := by
  have h2 := Sl.cut (k := k) (cap := cap) h (by simpa using hl)
  rw [if_neg (by omega), ← List.map_drop] at h2
  simpa only [Option.map_some, Addr.add_lit] using h2

set_option maxHeartbeats 1600000 in
theorem next_bad (A : Option Addr) (n c : Nat) (at_ : Int) (w : World) (h : at_ < 0 ∨ (n : Int) < at_) :
    Calls Tryd.prog 20 #[.slice A n c, .int .i64 at_] w (NextEnds w ([], 0, 1)) := by
  have HFin := Lib.hid (NextEnds.err (w := w) 1 (Below.refl _ _))
  rcases h with h | h
  · go_enter Tryd.func20, Tryd.ntmps20
    go_wp2_with fail
    go_ret3
    exact HFin.out
  · go_enter Tryd.func20, Tryd.ntmps20
    go_wp2_with fail
    go_ret3
    exact HFin.out

set_option maxRecDepth 100000 in
set_option maxHeartbeats 3200000 in
theorem next_calls (A : Option Addr) (n c : Nat) (bs : List UInt8) (k : Nat) (w : World) (hT : Tabs w) (hl : bs.length = n) (hc : n ≤ c) (hcm : n ≤ 140737488355328) (hk : k ≤ n) (hs : Sl w A (bs.map B8)) :
    Calls Tryd.prog 20 #[.slice A n c, .int .i64 (k : Int)] w (NextEnds w (nextF bs k)) := by
  subst hl
  have HLD : Hid ((bs.drop k).length = bs.length - k) := (show _ = _ from List.length_drop)
  have hk0 : (0 : Int) ≤ (k : Int) := by omega
  have hk1 : (k : Int) ≤ (bs.length : Int) := by omega
  have hk2 : (k : Int) ≤ (c : Int) := by omega
  by_cases hsh : bs.length - k < 8
  · have HV := Lib.hid (nextF_err (Frm.front_short (r := bs.drop k) (by rw [HLD.out]; exact hsh)) (by decide))
    have HFin := Lib.hid (NextEnds.err (w := w) 3 (Below.refl _ _))
    have hsh2 : (bs.length : Int) - (k : Int) < 8 := by omega
    by_cases hkc : c = k
    · subst hkc
      go_enter Tryd.func20, Tryd.ntmps20
      go_wp2_with fail
      go_ret3
      rw [HV.out]; exact HFin.out
    · have hkc2 : (k : Int) < (c : Int) := by omega
      go_enter Tryd.func20, Tryd.ntmps20
      go_wp2_with fail
      go_ret3
      rw [HV.out]; exact HFin.out
  · obtain ⟨b, o, rfl, _⟩ := hs.byte (k := k) (by omega)
    obtain ⟨L, hL⟩ : ∃ L, bs.length = k + L := ⟨bs.length - k, by omega⟩
    obtain ⟨C, rfl⟩ : ∃ C, c = k + C := ⟨c - k, by omega⟩
    have hsr := Sl.cutAt hs hc (k := k) (by omega)
    have HNF : Hid (nextF bs k = ((Frm.front (bs.drop k)).1, (if (Frm.front (bs.drop k)).2.2 = 0 then (k : Int) + ((Frm.front (bs.drop k)).2.1 : Int) else 0), (Frm.front (bs.drop k)).2.2)) := (show _ = _ from rfl)
    have HNE : Hid (∀ e, Frm.front (bs.drop k) = ([], 0, e) → e ≠ 0 → nextF bs k = ([], 0, e)) := (show ∀ _, _ from fun e h1 h2 => nextF_err h1 h2)
    rw [hL] at hc hk hsh HLD hcm ⊢
    have hrl : (bs.drop k).length = L := by rw [HLD.out]; omega
    generalize bs.drop k = r at *
    have HRL := Lib.hid hrl
    have hL8 : 8 ≤ L := by omega
    have hLC : L ≤ C := by omega
    have hLm : L ≤ 140737488355328 := by omega
    have hC8 : (8 : Int) ≤ (C : Int) := by omega
    have HSR := Lib.hid hsr
    have hkm : (k : Int) ≤ 140737488355328 := by omega
    clear hs hL hc hk hk1 hk2 hsh HLD hcm hrl hsr
    have HW1 := Lib.hid (word_calls (some ⟨b, o + k, none⟩) L C r w HRL.out (by omega) HSR.out)
    have hV := Frm.unword_lt r
    by_cases hform : Frm.unword r = 0 ∨ 262144 < Frm.unword r
    · have HV := Lib.hid (HNE.out 4 (Frm.front_form (by rw [HRL.out]; omega) hform) (by decide))
      generalize Frm.unword r = V at hV hform HW1
      rcases Nat.eq_zero_or_pos V with h0 | h0
      · subst h0
        clear hform hV
        go_enter Tryd.func20, Tryd.ntmps20
        go_wp2_with fail
        refine HW1.out.mono ?_
        rintro e w2 ⟨rfl, q, rfl⟩
        have HFin := Lib.hid (NextEnds.err (w := w) 4 (below_drewN (Below.refl _ _) q))
        go_wp2_with fail
        go_ret3
        rw [HV.out]; exact HFin.out
      · have hb0 : ((V : Int) == 0) = false := beq_eq_false_iff_ne.2 (by omega)
        have hwr : wrap64 (V : Int) = (V : Int) := IntWalk.wrap64_in _ (by omega)
        have hb1 : decide ((262144 : Int) < (V : Int)) = true := decide_eq_true (by omega)
        clear hform hV
        go_enter Tryd.func20, Tryd.ntmps20
        go_wp2_with fail
        refine HW1.out.mono ?_
        rintro e w2 ⟨rfl, q, rfl⟩
        have HFin := Lib.hid (NextEnds.err (w := w) 4 (below_drewN (Below.refl _ _) q))
        go_wp2_with fail
        go_ret3
        rw [HV.out]; exact HFin.out
    · by_cases hcut : L - 8 < Frm.unword r
      · have HV := Lib.hid (HNE.out 3 (Frm.front_cut (by rw [HRL.out]; omega) hform (by rw [HRL.out]; exact hcut)) (by decide))
        generalize Frm.unword r = V at hV hform hcut HW1
        have hb0 : ((V : Int) == 0) = false := beq_eq_false_iff_ne.2 (by omega)
        have hb1 : decide ((262144 : Int) < (V : Int)) = false := decide_eq_false (by omega)
        have hb2 : (L : Int) - 8 < (V : Int) := by omega
        have hV2 : (V : Int) ≤ 262144 := by omega
        clear hform hV hcut
        go_enter Tryd.func20, Tryd.ntmps20
        go_wp2_with fail
        refine HW1.out.mono ?_
        rintro e w2 ⟨rfl, q, rfl⟩
        have HFin := Lib.hid (NextEnds.err (w := w) 3 (below_drewN (Below.refl _ _) q))
        go_wp2_with fail
        go_ret3
        rw [HV.out]; exact HFin.out
      · have hs4 := Sl.cutAt HSR.out (cap := C) (k := 4) (by rw [HRL.out]; exact hLC) (by omega)
        have hs8 := Sl.cutAt HSR.out (cap := C) (k := 8) (by rw [HRL.out]; exact hLC) (by omega)
        have HX4 : Hid (Sl w (some ⟨b, o + k, none⟩) ((r.take 4).map B8)) := (show Sl _ _ _ by rw [List.map_take]; exact HSR.out.take 4)
        have HX8 : Hid (Sl w (some ⟨b, o + k + 8, none⟩) (((r.drop 8).take (Frm.unword r)).map B8)) := (show Sl _ _ _ by rw [List.map_take]; exact hs8.take _)
        have HL4 : Hid ((r.take 4).length = 4) := (show _ = _ by rw [List.length_take, HRL.out]; omega)
        have HL8 : Hid (((r.drop 8).take (Frm.unword r)).length = Frm.unword r) := (show _ = _ by rw [List.length_take, List.length_drop, HRL.out]; omega)
        have HW4 := Lib.hid (fun (W : World) (hW : Below w.heap.size w W) => word_calls (some ⟨b, o + k + 4, none⟩) (L - 4) (C - 4) (r.drop 4) W (by rw [List.length_drop, HRL.out]) (by omega) (hs4.below hW))
        have HOf : Hid (∀ (W X : World), Below w.heap.size w W → Q (W.alloc (.cells #[.slice (some ⟨b, o + k, none⟩) 4 C, .slice (some ⟨b, o + k + 8, none⟩) (Frm.unword r) (C - 8)] 26)) X → Calls Tryd.prog 27 #[.slice (some ⟨W.heap.size, 0, none⟩) 2 2] X (fun e w' => e = .returned (.int .u32 ((Crc.crc 0#32 (r.take 4 ++ (r.drop 8).take (Frm.unword r))).toNat : Int)) ∧ ∃ m, w' = X.drewN m)) :=
          (show ∀ _ _, _ from fun W X hW hX => by
            have h := of_calls (some ⟨W.heap.size, 0, none⟩) 2 2 [⟨some ⟨b, o + k, none⟩, C, r.take 4⟩, ⟨some ⟨b, o + k + 8, none⟩, C - 8, (r.drop 8).take (Frm.unword r)⟩] X rfl (by decide) ((hT.below (hW.alloc hW.size (.cells #[.slice (some ⟨b, o + k, none⟩) 4 C, .slice (some ⟨b, o + k + 8, none⟩) (Frm.unword r) (C - 8)] 26))).keep fun _ _ _ => hX.cell _) (Sl.q (Sl.new rfl (by simp only [List.map_cons, List.map_nil, Part.cell]; rw [HL4.out, HL8.out])) hX) (by
              intro p hp
              rcases List.mem_cons.1 hp with rfl | hp
              · exact ⟨by rw [HL4.out]; decide, ((HX4.out.below hW).alloc _).q hX⟩
              · obtain rfl := List.mem_singleton.1 hp
                exact ⟨by rw [HL8.out]; omega, ((HX8.out.below hW).alloc _).q hX⟩)
            have e : Crc.crcs 0#32 (List.map Part.bs [⟨some ⟨b, o + k, none⟩, C, r.take 4⟩, ⟨some ⟨b, o + k + 8, none⟩, C - 8, (r.drop 8).take (Frm.unword r)⟩]) = Crc.crc 0#32 (r.take 4 ++ (r.drop 8).take (Frm.unword r)) := by rw [Crc.crcs_flat]; simp
            rw [e] at h
            exact h)
        have HSR2 : Hid (∀ (W X : World), Below w.heap.size w W → Q (W.alloc (.cells #[.slice (some ⟨b, o + k, none⟩) 4 C, .slice (some ⟨b, o + k + 8, none⟩) (Frm.unword r) (C - 8)] 26)) X → Src Tryd.prog 1 26 (.slice (some ⟨b, o + k + 8, none⟩) (Frm.unword r) (C - 8)) (Frm.unword r) (((r.drop 8).take (Frm.unword r)).map B8) X) :=
          (show ∀ _ _, _ from fun W X hW hX => srcSl Tryd.underlying26 (by simpa using HL8.out) (((HX8.out.below hW).alloc _).q hX) (bytes_one _))
        have HBX : Hid (∀ (W X : World), Below w.heap.size w W → Q (W.alloc (.cells #[.slice (some ⟨b, o + k, none⟩) 4 C, .slice (some ⟨b, o + k + 8, none⟩) (Frm.unword r) (C - 8)] 26)) X → Below w.heap.size w X) := (show ∀ _ _, _ from fun W X hW hX => (hW.alloc hW.size _).trans (hX.below _))
        obtain ⟨i0, hi, hz0, hz1, hz2⟩ := info_parts infoU8
        by_cases hsum : (Crc.crc 0#32 (r.take 4 ++ (r.drop 8).take (Frm.unword r))).toNat = Frm.unword (r.drop 4)
        · have HV0 := Frm.front_ok (by rw [HRL.out]; omega) hform (by rw [HRL.out]; exact hcut) hsum
          have HV : Hid (nextF bs k = ((r.drop 8).take (Frm.unword r), (k : Int) + ((8 + Frm.unword r : Nat) : Int), 0)) := (show _ = _ by rw [HNF.out, HV0]; rfl)
          have hne : ((Frm.unword (r.drop 4) : Int) != ((Crc.crc 0#32 (r.take 4 ++ (r.drop 8).take (Frm.unword r))).toNat : Int)) = false := by rw [hsum]; simp
          clear HV0
          generalize (Crc.crc 0#32 (r.take 4 ++ (r.drop 8).take (Frm.unword r))).toNat = cc at hne HOf
          generalize Frm.unword (r.drop 4) = U at hne HW4
          generalize (r.drop 8).take (Frm.unword r) = pl at *
          generalize Frm.unword r = V at *
          have hb0 : ((V : Int) == 0) = false := beq_eq_false_iff_ne.2 (by omega)
          have hb1 : decide ((262144 : Int) < (V : Int)) = false := decide_eq_false (by omega)
          have hb2 : ¬ (L : Int) - 8 < (V : Int) := by omega
          have hV2 : (V : Int) ≤ 262144 := by omega
          have hV3 : (8 : Int) + (V : Int) ≤ (C : Int) := by omega
          have hV0 : 0 < V := by omega
          have hVC : V ≤ 262144 := by omega
          have hC9 : (8 : Int) < (C : Int) := by omega
          have hC4 : (4 : Int) < (C : Int) := by omega
          have hC44 : (4 : Int) ≤ (C : Int) := by omega
          have hC4n : ¬ C = 4 := by omega
          have hL4 : (4 : Int) ≤ (L : Int) := by omega
          clear hform hV hcut hsum hs4 hs8 HSR
          have hB0 := Below.refl w.heap.size w
          go_enter Tryd.func20, Tryd.ntmps20
          go_wp2_with fail
          refine HW1.out.mono ?_
          rintro e w2 ⟨rfl, q, rfl⟩
          have hB2 := below_drewN hB0 q
          generalize w.drewN q = w2 at *
          have HOf2 := Lib.hid (fun X => HOf.out w2 X hB2)
          have HSR3 := Lib.hid (fun X => HSR2.out w2 X hB2)
          have HBX3 := Lib.hid (fun X => HBX.out w2 X hB2)
          clear HOf HSR2 HBX
          go_wp2_with fail
          go_region_held3 (fun _ => True) (exact trivial) (first | (go_at_call 30; (with_reducible refine (HW4.out _ (by first | exact hB2 | exact hB2.drew | exact (hB2.alloc hB2.size _).drew | exact hB2.alloc hB2.size _)).mono ?_); rintro e wz ⟨rfl, qz, rfl⟩) | (go_at_call 27; refine (HOf2.out _ (by exact ⟨rfl, rfl, rfl, rfl⟩)).mono ?_; rintro e wy ⟨rfl, qy, rfl⟩))
          all_goals
            go_wp2_with (at_builtin; refine wpList_append_ownK (o := ⟨some 52, _, _, _, _, _⟩) rfl (.const (.slice none 0 0)) (.tmp 51) 26 26 rfl 5 i0 (.int .u8 0) 1 1 Tryd.underlying26 hi hz0 hz1 hz2 rfl w.heap.size none 0 0 [] rfl (OwnB.nil _ _ _ _) (.slice (some ⟨b, o + k + 8, none⟩) V (C - 8)) rfl V (pl.map B8) (HSR3.out _ (by exact ⟨rfl, rfl, rfl, rfl⟩)) (by omega) (by omega) w (HBX3.out _ (by exact ⟨rfl, rfl, rfl, rfl⟩)) (HBX3.out _ (by exact ⟨rfl, rfl, rfl, rfl⟩)).size ?_)
            intro w3 D3 c3 HO3 HK3 hb3 hsz3
            have HO4 : Hid (OwnB w3 w.heap.size 5 1 D3 V c3 (pl.map B8)) := (show OwnB _ _ _ _ _ _ _ _ by simpa using HO3.out)
            have HFin : Hid (NextEnds w (nextF bs k) (.returned (.tuple #[.slice D3 V c3, .int .i64 ((k : Int) + 8 + (V : Int)), .int .i64 0])) w3) := (show NextEnds _ _ _ _ from ⟨D3, c3, by rw [HV.out]; simp only [HL8.out]; rw [show ((k : Int) + ((8 + V : Nat) : Int)) = (k : Int) + 8 + (V : Int) by omega]; rfl, by rw [HV.out]; simp only [HL8.out]; exact HO4.out, hb3⟩)
            clear HO3 HK3 hb3 hsz3 HO4
            go_wp2_with fail
            go_ret3
            exact HFin.out
        · have HV := Lib.hid (HNE.out 6 (Frm.front_sum (by rw [HRL.out]; omega) hform (by rw [HRL.out]; exact hcut) hsum) (by decide))
          have hne : ((Frm.unword (r.drop 4) : Int) != ((Crc.crc 0#32 (r.take 4 ++ (r.drop 8).take (Frm.unword r))).toNat : Int)) = true := by rw [bne_iff_ne]; omega
          generalize (Crc.crc 0#32 (r.take 4 ++ (r.drop 8).take (Frm.unword r))).toNat = cc at hne HOf
          generalize Frm.unword (r.drop 4) = U at hne HW4
          generalize (r.drop 8).take (Frm.unword r) = pl at *
          generalize Frm.unword r = V at *
          have hb0 : ((V : Int) == 0) = false := beq_eq_false_iff_ne.2 (by omega)
          have hb1 : decide ((262144 : Int) < (V : Int)) = false := decide_eq_false (by omega)
          have hb2 : ¬ (L : Int) - 8 < (V : Int) := by omega
          have hV2 : (V : Int) ≤ 262144 := by omega
          have hV3 : (8 : Int) + (V : Int) ≤ (C : Int) := by omega
          have hV0 : 0 < V := by omega
          have hVC : V ≤ 262144 := by omega
          have hC9 : (8 : Int) < (C : Int) := by omega
          have hC4 : (4 : Int) < (C : Int) := by omega
          have hC44 : (4 : Int) ≤ (C : Int) := by omega
          have hC4n : ¬ C = 4 := by omega
          have hL4 : (4 : Int) ≤ (L : Int) := by omega
          clear hform hV hcut hsum hs4 hs8 HSR
          have hB0 := Below.refl w.heap.size w
          go_enter Tryd.func20, Tryd.ntmps20
          go_wp2_with fail
          refine HW1.out.mono ?_
          rintro e w2 ⟨rfl, q, rfl⟩
          have hB2 := below_drewN hB0 q
          generalize w.drewN q = w2 at *
          have HOf2 := Lib.hid (fun X => HOf.out w2 X hB2)
          have HSR3 := Lib.hid (fun X => HSR2.out w2 X hB2)
          have HBX3 := Lib.hid (fun X => HBX.out w2 X hB2)
          clear HOf HSR2 HBX
          go_wp2_with fail
          go_region_held3 (fun _ => True) (exact trivial) (first | (go_at_call 30; (with_reducible refine (HW4.out _ (by first | exact hB2 | exact hB2.drew | exact (hB2.alloc hB2.size _).drew | exact hB2.alloc hB2.size _)).mono ?_); rintro e wz ⟨rfl, qz, rfl⟩) | (go_at_call 27; refine (HOf2.out _ (by exact ⟨rfl, rfl, rfl, rfl⟩)).mono ?_; rintro e wy ⟨rfl, qy, rfl⟩))
          all_goals
            have HFin := Lib.hid (fun X hX => NextEnds.err (w := w) 6 (HBX3.out X hX))
            go_wp2_with fail
            go_ret3
            rw [HV.out]; exact HFin.out _ ⟨rfl, rfl, rfl, rfl⟩
end Go.Proofs.YtenhbjcamkbffaaDoor
