/-
  UtfResumes, its walk.
-/
import Derived.Test.YtepmnhlfjidhjaaUtfTwo
import Derived.Test.YtepmnhlfjidhjaaWithin
import Derived.Deep.RegionHeld3
import Derived.Deep.DeepCutAuto
import Derived.Deep.CutBlock
namespace Go.Proofs.Ytepmnhlfjidhjaa
open Go.RowKit Go.Mem

/-- two decoders that hold the same -/
structure TwoU (w0 w : World) (p p2 : Nat) (L L2 : Option Addr) (n c n2 c2 : Nat) (h : List UInt8) : Prop where
  d1 : Dec w w0.heap.size p L n c h
  d2 : Dec w w0.heap.size p2 L2 n2 c2 h
  ne : p ≠ p2
  ap : ApsU L L2
  st : h = [] ∨ startU h = 0
  bel : Below w0.heap.size w0 w
theorem Dec.drew {w : World} {B p n c : Nat} {L : Option Addr} {h : List UInt8} (d : Dec w B p L n c h) : Dec w.drew B p L n c h := ⟨d.obj, d.own, d.len, d.low⟩
theorem TwoU.drew {w0 w : World} {p p2 : Nat} {L L2 : Option Addr} {n c n2 c2 : Nat} {h : List UInt8} (t : TwoU w0 w p p2 L L2 n c n2 c2 h) : TwoU w0 w.drew p p2 L L2 n c n2 c2 h := ⟨t.d1.drew, t.d2.drew, t.ne, t.ap, t.st, t.bel.drew⟩
theorem TwoU.drewN {w0 w : World} {p p2 : Nat} {L L2 : Option Addr} {n c n2 c2 : Nat} {h : List UInt8} (t : TwoU w0 w p p2 L L2 n c n2 c2 h) (q : Nat) : TwoU w0 (w.drewN q) p p2 L L2 n c n2 c2 h := ⟨t.d1.drewN q, t.d2.drewN q, t.ne, t.ap, t.st, below_drewN t.bel q⟩
/-- the first of them has gone on -/
structure MidU (w0 w : World) (p p2 : Nat) (L L2 : Option Addr) (n c n2 c2 : Nat) (h h' : List UInt8) (D : Option Addr) (m cD : Nat) (g : List (Nat × Nat)) : Prop where
  d1 : Dec w w0.heap.size p L n c h'
  d2 : Dec w w0.heap.size p2 L2 n2 c2 h
  ne : p ≠ p2
  ap : ApsU L L2
  own : OwnB w w0.heap.size 26 2 D m cD (flatG g)
  bel : Below w0.heap.size w0 w
theorem MidU.drew {w0 w : World} {p p2 : Nat} {L L2 : Option Addr} {n c n2 c2 : Nat} {h h' : List UInt8} {D : Option Addr} {m cD : Nat} {g : List (Nat × Nat)} (t : MidU w0 w p p2 L L2 n c n2 c2 h h' D m cD g) : MidU w0 w.drew p p2 L L2 n c n2 c2 h h' D m cD g := ⟨t.d1.drew, t.d2.drew, t.ne, t.ap, t.own, t.bel.drew⟩
/-- both have gone on -/
structure EndU (w0 w : World) (p p2 : Nat) (L L2 : Option Addr) (n c n2 c2 : Nat) (h' : List UInt8) (D D2 : Option Addr) (m cD m2 cD2 : Nat) (g : List (Nat × Nat)) : Prop where
  d1 : Dec w w0.heap.size p L n c h'
  d2 : Dec w w0.heap.size p2 L2 n2 c2 h'
  ne : p ≠ p2
  ap : ApsU L L2
  own : OwnB w w0.heap.size 26 2 D m cD (flatG g)
  own2 : OwnB w w0.heap.size 26 2 D2 m2 cD2 (flatG g)
  bel : Below w0.heap.size w0 w
theorem EndU.drew {w0 w : World} {p p2 : Nat} {L L2 : Option Addr} {n c n2 c2 : Nat} {h' : List UInt8} {D D2 : Option Addr} {m cD m2 cD2 : Nat} {g : List (Nat × Nat)} (t : EndU w0 w p p2 L L2 n c n2 c2 h' D D2 m cD m2 cD2 g) : EndU w0 w.drew p p2 L L2 n c n2 c2 h' D D2 m cD m2 cD2 g := ⟨t.d1.drew, t.d2.drew, t.ne, t.ap, t.own, t.own2, t.bel.drew⟩

theorem Dec.q {w w' : World} {B p n c : Nat} {L : Option Addr} {h : List UInt8} (d : Dec w B p L n c h) (q : Q w w') : Dec w' B p L n c h := ⟨d.obj.q q, d.own.keep (fun _ _ _ => by rw [q.heap]), d.len, d.low⟩
theorem EndU.two {w0 w w' : World} {p p2 : Nat} {L L2 : Option Addr} {n c n2 c2 : Nat} {h' : List UInt8} {D D2 : Option Addr} {m cD m2 cD2 : Nat} {g : List (Nat × Nat)} (t : EndU w0 w p p2 L L2 n c n2 c2 h' D D2 m cD m2 cD2 g) (hst : h' = [] ∨ startU h' = 0) (q : Q w w') : TwoU w0 w' p p2 L L2 n c n2 c2 h' :=
  ⟨t.d1.q q, t.d2.q q, t.ne, t.ap, hst, t.bel.trans (q.below _)⟩

theorem Dec.only2 {w w' : World} {B B2 p p2 n c n2 c2 : Nat} {L L2 : Option Addr} {h h2 : List UInt8} (d2 : Dec w B2 p2 L2 n2 c2 h2) (d : Dec w B p L n c h) (g : w.grownBy w' (some p)) (hne : p2 ≠ p) : Dec w' B2 p2 L2 n2 c2 h2 :=
  ⟨d2.obj.only g hne, d2.own.only d.obj (by decide) g, d2.len, d2.low⟩
def StepA (w0 : World) (p p2 : Nat) (L2 : Option Addr) (n2 c2 : Nat) (h : List UInt8) (R : List UInt8 × List (Nat × Nat)) (e : Ending) (w' : World) : Prop :=
  ∃ (D L : Option Addr) (m cD n c : Nat), e = .returned (.slice D m cD) ∧ Hid (m = R.2.length) ∧ m ≤ 1000001 ∧ MidU w0 w' p p2 L L2 n c n2 c2 h R.1 D m cD R.2
def StepB (w0 : World) (p p2 : Nat) (L : Option Addr) (n c : Nat) (D : Option Addr) (m cD : Nat) (R : List UInt8 × List (Nat × Nat)) (e : Ending) (w' : World) : Prop :=
  ∃ (D2 L2 : Option Addr) (m2 cD2 n2 c2 : Nat), e = .returned (.slice D2 m2 cD2) ∧ Hid (m2 = R.2.length) ∧ EndU w0 w' p p2 L L2 n c n2 c2 R.1 D D2 m cD m2 cD2 R.2
theorem Dec.lieslt {w : World} {B p n c : Nat} {L : Option Addr} {h : List UInt8} (d : Dec w B p L n c h) : ∀ g, L = some ⟨g, 0, none⟩ → g < w.heap.size := d.own.lt2
theorem stepA {w0 w : World} {p p2 : Nat} {L L2 : Option Addr} {n c n2 c2 : Nat} {h : List UInt8} (t : TwoU w0 w p p2 L L2 n c n2 c2 h) (x : UInt8) (R : List UInt8 × List (Nat × Nat)) (hr : loopU (h ++ [x]) = R) (hn : n ≤ 1000000) :
    Calls Try.prog 18 #[.pointer (some ⟨p, 0, none⟩), .int .u8 (x.toNat : Int)] w (StepA w0 p p2 L2 n2 c2 h R) := by
  refine (byteC w0.heap.size p n c L h x _ rfl R hr w t.d1 hn t.bel.size).mono ?_
  unfold ByteEnds StepA
  rintro e w' ⟨L', D, n', c', m, cD, rfl, hm, hm2, hd, ho, hf⟩
  exact ⟨D, L', m, cD, n', c', rfl, hm, hm2, hd, t.d2.other2 t.d1 hf (Ne.symm t.ne) t.ap, t.ne, t.ap.turn hf t.d2.lieslt, ho.mono t.bel.size, below_dfr t.bel t.d1 hf t.bel.size⟩
theorem stepB2 {w0 w : World} {p p2 : Nat} {L L2 : Option Addr} {n c n2 c2 : Nat} {h : List UInt8} {D : Option Addr} {m cD : Nat} (x : UInt8) (R : List UInt8 × List (Nat × Nat)) (t : MidU w0 w p p2 L L2 n c n2 c2 h R.1 D m cD R.2) (hr : loopU (h ++ [x]) = R) (hn : n2 ≤ 1000000) :
    Calls Try.prog 18 #[.pointer (some ⟨p2, 0, none⟩), .int .u8 (x.toNat : Int)] w (StepB w0 p p2 L n c D m cD R) := by
  refine (byteC w0.heap.size p2 n2 c2 L2 h x _ rfl R hr w t.d2 hn t.bel.size).mono ?_
  unfold ByteEnds StepB
  rintro e w' ⟨L', D2, n', c', m2, cD2, rfl, hm, hm2, hd, ho, hf⟩
  exact ⟨D2, L', m2, cD2, n', c', rfl, hm, t.d1.other2 t.d2 hf t.ne t.ap.symm, hd, t.ne, (t.ap.symm.turn hf t.d1.lieslt).symm, OwnB.dfr t.own t.d2 hf, ho.mono t.bel.size, below_dfr t.bel t.d2 hf t.bel.size⟩

set_option maxRecDepth 100000 in
set_option maxHeartbeats 6400000 in
theorem utfResumes_calls (A : Option Addr) (n cap : Nat) (bs : List UInt8) (at_ : Int) (E : Option Addr) (m cE : Nat) (hh : List UInt8) (w : World) (hl : bs.length = n) (hn : n ≤ 140737488355328) (hc : n ≤ cap) (hs : Sl w A (bs.map B8)) (hat : -9223372036854775808 ≤ at_ ∧ at_ ≤ 9223372036854775807)
    (hm : hh.length = m) (hmm : m ≤ 140737488355328) (hE : Sl w E (hh.map B8)) :
    Calls Try.prog 5 #[.slice A n cap, .int .i64 at_, .slice E m cE] w fun e w' => e = .returned (.bool true) ∧ Below w.heap.size w w' := by
  subst hl hm
  have HS := Lib.hid hs
  have HSE := Lib.hid hE
  clear hs hE
  go_enter Try.func5, Try.ntmps5
  go_upto_if 17 with fail
  go_cut [0] (fun s0 wx => ∃ (N : Nat) (c' : Nat) (ds : List UInt8), s0 = .slice A N c' ∧ N ≤ 300 ∧ Hid (ds.length = N) ∧ Hid (Sl wx A (ds.map B8)) ∧ wx = w)
  case first =>
    by_cases h3 : 300 < bs.length
    · have h300 : (300 : Int) ≤ (cap : Int) := by omega
      go_wp2_with fail
      go_meet
      exact ⟨300, cap, bs.take 300, rfl, by omega, (show _ = _ by rw [List.length_take]; omega), (show Sl _ _ _ by rw [List.map_take]; exact HS.out.take 300), rfl⟩
    · go_wp2_with fail
      go_meet
      exact ⟨bs.length, cap, bs, rfl, by omega, (show _ = _ from rfl), HS, rfl⟩
  case rest =>
    obtain ⟨N, c', ds, rfl, hN, HN, HD, hw⟩ := hcut
    subst wc
    clear HS hn hc
    go_wp2_with fail
    refine (dnew_calls w).mono ?_
    unfold NewDec
    rintro e w1 ⟨p, rfl, d1, b1⟩
    have HD1 := Lib.hid d1
    clear d1
    go_wp2_with fail
    refine (dnew_calls w1).mono ?_
    unfold NewDec
    rintro e w2 ⟨p2, rfl, d2, b2⟩
    have ht : TwoU w w2 p p2 none none 0 0 0 0 [] := ⟨HD1.out.below b2, ⟨d2.obj, d2.own.mono b1.size, d2.len, Nat.le_trans b1.size d2.low⟩, (fun e => by have := HD1.out.obj.lt; have := d2.low; omega), (fun g h => by cases h), .inl rfl, b1.trans (b2.mono b1.size)⟩
    have HT := Lib.hid ht
    clear ht HD1 b1 d2 b2
    go_wp2_with fail
    refine (within_calls at_ 0 N w2 (by decide) (by omega) (by omega) hat).mono ?_
    rintro e w3 ⟨rfl, rfl⟩
    have hk0 := within_ge at_ 0 N (by omega)
    generalize within at_ 0 N = kk at hk0
    obtain ⟨kk, rfl⟩ := Int.eq_ofNat_of_zero_le hk0
    clear hk0 hat
    go_wp2_with fail
    go_loopw [7, 10, 11, 12] (fun sp i _ _ wr => ∃ (p : Nat) (L L2 : Option Addr) (j n c n2 c2 : Nat) (h : List UInt8), sp = .pointer (some ⟨p, 0, none⟩) ∧ i = .int .i64 j ∧ j ≤ N ∧ n ≤ 3 ∧ n2 ≤ 3 ∧ Hid (TwoU w wr p p2 L L2 n c n2 c2 h)) (fun _ i _ _ _ => N - (intOf i).toNat)
    case atStart => exact ⟨p, none, none, 0, 0, 0, 0, 0, [], rfl, rfl, Nat.zero_le _, by omega, by omega, HT⟩
    case round =>
      clear HT
      obtain ⟨p, L, L2, j, n, c, n2, c2, h, rfl, rfl, hj, hn3, hn4, HT⟩ := hrel
      obtain ⟨wo, rfl⟩ : ∃ wo : World, wo = wr := ⟨_, rfl⟩
      by_cases hlt : j < N
      · have HDW : Hid (∀ W : World, Below w.heap.size w W → ∃ b o, A = some ⟨b, o, none⟩ ∧ W.cell? ⟨b, o + j, none⟩ = some (.int .u8 ((ds[j]'(by rw [HN.out]; exact hlt)).toNat : Int))) := (show ∀ W : World, _ from fun W hW => (HD.out.below hW).byte _)
        generalize ds[j]'(by rw [HN.out]; exact hlt) = x at HDW
        obtain ⟨b, o, rfl, hca⟩ := HDW.out w (Below.refl _ _)
        clear HDW
        have HCA := Lib.hid hca
        clear hca
        go_upto_if 40 with fail
        go_cut [7, 11, 12] (fun d _ _ wx => ∃ (p : Nat) (L : Option Addr) (n c : Nat), d = .pointer (some ⟨p, 0, none⟩) ∧ n ≤ 3 ∧ Hid (TwoU w wx p p2 L L2 n c n2 c2 h))
        case first =>
          by_cases hjk : j = kk
          · subst hjk
            go_wp2_with fail
            refine (held_calls w.heap.size p n c L h _ HT.out.d1 (by omega)).mono ?_
            unfold HeldEnds
            rintro e w5 ⟨D5, c5, rfl, ho5, b5⟩
            go_wp2_with fail
            refine (of_ok h D5 h.length c5 w5 rfl (by have := HT.out.d1.len; omega) ho5.sl (HT.out.st.imp (fun e => by rw [e]; rfl) id)).mono ?_
            unfold OfEnds
            rintro e w6 ⟨p6, L6, c6, rfl, d6, b6⟩
            have hB5 := HT.out.bel.trans (b5.mono HT.out.bel.size)
            have hB6 := hB5.trans (b6.mono hB5.size)
            have d25 := HT.out.d2.below b5
            have ht6 : TwoU w w6 p6 p2 L6 L2 h.length c6 n2 c2 h := ⟨⟨d6.obj, d6.own.mono hB5.size, d6.len, Nat.le_trans hB5.size d6.low⟩, d25.below b6, (fun e => by have := d25.obj.lt; have := d6.low; omega), (fun g h1 h2 => by
              have h3 := d25.lieslt g h2
              rcases d6.own.2.2 with ⟨e2, _⟩ | ⟨g2, _, e2, hg, _⟩
              · rw [h1] at e2; cases e2
              · rw [h1] at e2; injection e2 with e2; injection e2 with e3; omega), HT.out.st, hB6⟩
            have HT6 := Lib.hid ht6
            have hlen : h.length ≤ 3 := by have := HT.out.d1.len; omega
            clear ht6 d25 hB5 hB6 b5 b6 d6 ho5 HT
            generalize h.length = n6 at *
            go_wp2_with fail
            go_meet
            exact ⟨p6, L6, n6, c6, rfl, hlen, HT6⟩
          · have hjk2 : ((j : Int) == (kk : Int)) = false := beq_eq_false_iff_ne.2 (by omega)
            go_wp2_with fail
            go_meet
            exact ⟨p, L, n, c, rfl, hn3, HT⟩
        case rest =>
          clear HT
          obtain ⟨p, L, n, c, rfl, hn3, HT⟩ := hcut
          have hend := loopU_end (h ++ [x])
          have hheld := loopU_held (h ++ [x])
          have HSA := Lib.hid (fun (W : World) (t : TwoU w W p p2 L L2 n c n2 c2 h) => stepA t x (loopU (h ++ [x])) rfl (by omega))
          have HSB := Lib.hid (fun (W : World) (L : Option Addr) (n c : Nat) (D : Option Addr) (m cD : Nat) (t : MidU w W p p2 L L2 n c n2 c2 h (loopU (h ++ [x])).1 D m cD (loopU (h ++ [x])).2) => stepB2 x (loopU (h ++ [x])) t rfl (by omega))
          generalize loopU (h ++ [x]) = R at hend hheld HSA HSB
          have HEND := Lib.hid hend
          have i0 : (0 : Int) ≤ (j : Int) := Int.natCast_nonneg _
          have i1 : (j : Int) < (N : Int) := by omega
          have hB0 := HT.out.bel
          have hca := keep_below hB0 HCA.out
          clear hend
          go_wp2_with fail
          go_region_held3 (fun w' => w'.cell? ⟨b, o + j, none⟩ = some (.int .u8 (x.toNat : Int))) (first | (exact keep_below tz.bel HCA.out) | (exact keep_below ty.bel HCA.out) | go_keep) (first | (go_at_call_of 18 p; (with_reducible refine (HSA.out _ (by first | exact HT.out | exact HT.out.drew)).mono ?_); unfold StepA; rintro e wy ⟨D1, L1, m1, cD1, n1, c1, rfl, hm1, hm1l, ty⟩) | (go_at_call_of 18 p2; (with_reducible refine (HSB.out _ _ _ _ _ _ _ (by first | exact ty | exact ty.drew)).mono ?_); unfold StepB; rintro e wz ⟨D3, L3, m3, cD3, n3, c3, rfl, hm3, tz⟩) | (go_at_call 22; (with_reducible refine (sameG_true D1 D3 m1 m3 cD1 cD3 R.2 _ hm1.out.symm hm3.out.symm (by omega) (by exact tz.own.sl) (by exact tz.own2.sl)).mono ?_); rintro e wv ⟨rfl, q4, rfl⟩))
          have hl1 := tz.d1.len
          have hl2 := tz.d2.len
          go_wp2_with fail
          go_roundw
          case rel => exact ⟨p, L1, L3, j + 1, n1, c1, n3, c3, R.1, rfl, by go_num, by omega, by omega, by omega, (show TwoU _ _ _ _ _ _ _ _ _ _ _ from tz.two HEND.out ⟨rfl, rfl, rfl, rfl⟩)⟩
          case measure => simp [intOf]; omega
      · have HE1 := Lib.hid (end_calls w.heap.size p n c L h wo HT.out.d1 (by omega))
        have hB := HT.out.bel
        have HSW := Lib.hid (HSE.out.below hB)
        by_cases hpos : 0 < hh.length
        · by_cases hst : startU hh = 0
          · have hl3 : hh.length ≤ 3 := by rcases startU_cases hh hpos with e | ⟨_, e⟩ | ⟨k, e, e1, _⟩ <;> omega
            have hbg : begunU hh = true := by unfold begunU; rw [decide_eq_true hst, decide_eq_true hpos]; rfl
            have HBG := Lib.hid (fun (W : World) (hW : Sl W E (hh.map B8)) => begun_calls hh E hh.length cE W rfl (by omega) hW)
            rw [hbg] at HBG
            have HOK : Hid (hh.length = 0 ∨ startU hh = 0) := (show _ ∨ _ from .inr hst)
            have HNN : Hid (n = n2) := (show _ = _ from HT.out.d1.len.trans HT.out.d2.len.symm)
            clear hbg hst HE1
            go_wp2_with fail
            refine (of_ok hh E hh.length cE wo rfl (by omega) HSW.out HOK.out).mono ?_
            unfold OfEnds
            rintro e w4 ⟨p5, L5, c5, rfl, d5, b5⟩
            have HT4 := Lib.hid (show TwoU w w4 p p2 L L2 n c n2 c2 h from ⟨HT.out.d1.below b5, HT.out.d2.below b5, HT.out.ne, HT.out.ap, HT.out.st, hB.trans (b5.mono hB.size)⟩)
            have hp5 : p5 ≠ p := fun e => by have := HT.out.d1.obj.lt; have := d5.low; omega
            have hp52 : p5 ≠ p2 := fun e => by have := HT.out.d2.obj.lt; have := d5.low; omega
            have HD5 := Lib.hid d5
            have HSW4 := Lib.hid (HSW.out.below b5)
            have hle5 := hB.size
            clear HT hB HSW d5 b5
            go_wp2_with fail
            refine (HBG.out _ HSW4.out).mono ?_
            rintro e w5 ⟨rfl, q5, rfl⟩
            have HT5 := Lib.hid (HT4.out.drewN q5)
            have HD6 := Lib.hid (HD5.out.drewN q5)
            have HSW5 := Lib.hid (HSW4.out.drewN q5)
            clear HT4 HD5 HSW4 HBG
            generalize w4.drewN q5 = w5 at *
            go_wp2_with fail
            refine (end_calls w.heap.size p n c L h w5 HT5.out.d1 (by omega)).mono ?_
            unfold EndEnds
            rintro e w6 ⟨D6, cD6, rfl, _, o6, g6⟩
            have HO6 := Lib.hid o6
            have HD26 := Lib.hid (HT5.out.d2.only2 HT5.out.d1 g6 (Ne.symm HT5.out.ne))
            have HD7 := Lib.hid (HD6.out.only2 HT5.out.d1 g6 hp5)
            have hB6 := below_only HT5.out.bel g6 HT5.out.bel.size HT5.out.d1.low
            have HSW6 := Lib.hid (HSE.out.below hB6)
            clear HT5 HD6 HSW5 g6 o6
            go_wp2_with fail
            refine (end_calls w.heap.size p2 n2 c2 L2 h w6 HD26.out (by omega)).mono ?_
            unfold EndEnds
            rintro e w7 ⟨D7, cD7, rfl, _, o7, g7⟩
            have HO67 := Lib.hid (HO6.out.only HD26.out.obj (by decide) g7)
            have HO7 := Lib.hid o7
            have HD8 := Lib.hid (HD7.out.only2 HD26.out g7 hp52)
            have hB7 := below_only hB6 g7 hB6.size HD26.out.low
            clear HO6 HD26 HD7 HSW6 g7 o7 hB6
            go_wp2_with fail
            refine (sameG_true D6 D7 n n2 cD6 cD7 (List.replicate n (65533, 1)) w7 (by rw [List.length_replicate]) (by rw [List.length_replicate]; exact HNN.out) (by omega) HO67.out.sl (by rw [HNN.out]; exact HO7.out.sl)).mono ?_
            rintro e w8 ⟨rfl, q8, rfl⟩
            have HD9 := Lib.hid (HD8.out.drewN q8)
            have hB8 := below_drewN hB7 q8
            clear HO67 HO7 HD8 hB7
            generalize w7.drewN q8 = w8 at *
            go_wp2_with fail
            refine (held_calls wo.heap.size p5 hh.length c5 L5 hh w8 HD9.out (by omega)).mono ?_
            unfold HeldEnds
            rintro e w9 ⟨D9, c9, rfl, o9, b9⟩
            have hB9 := hB8.trans (b9.mono hB8.size)
            have hs9 := o9.sl
            have HS9 := Lib.hid (HSE.out.below hB9)
            clear HD9 hB8 b9 o9
            go_wp2_with fail
            refine (sameB_calls D9 E hh.length hh.length c9 cE hh hh w9 rfl rfl (by omega) (by omega) hs9 HS9.out).mono ?_
            rintro e w10 ⟨rfl, q10, rfl⟩
            rw [eqL_self]
            have hB10 := below_drewN hB9 q10
            clear hs9 HS9 hB9
            generalize w9.drewN q10 = w10 at *
            go_wp2_with fail
            refine (utfRuns_calls _).mono ?_
            rintro e w11 ⟨rfl, b11⟩
            go_wp2_with fail
            go_ret
            exact ⟨rfl, hB10.trans (b11.mono hB10.size)⟩
          · have hbg : begunU hh = false := by unfold begunU; rw [decide_eq_false hst, Bool.and_false]
            have HB := Lib.hid (fun (W : World) (hW : Sl W E (hh.map B8)) => begun_calls hh E hh.length cE W rfl (by omega) hW)
            rw [hbg] at HB
            have hp2 : decide ((0 : Int) < (hh.length : Int)) = true := decide_eq_true (by omega)
            clear hbg HT HE1
            go_wp2_with fail
            refine (of_bad hh E hh.length cE wo rfl (by omega) HSW.out hpos hst).mono ?_
            rintro e w4 ⟨rfl, rfl⟩
            go_wp2_with fail
            refine (HB.out _ HSW.out).mono ?_
            rintro e w5 ⟨rfl, q5, rfl⟩
            have hB5 := below_drewN hB q5
            go_wp2_with fail
            refine (utfRuns_calls _).mono ?_
            rintro e w6 ⟨rfl, b6⟩
            go_wp2_with fail
            go_ret
            exact ⟨rfl, hB5.trans (b6.mono hB5.size)⟩
        · have hl0 : hh.length = 0 := by omega
          have hbg : begunU hh = false := by unfold begunU; rw [decide_eq_false hpos]; rfl
          have HBG := Lib.hid (fun (W : World) (hW : Sl W E (hh.map B8)) => begun_calls hh E hh.length cE W rfl (by omega) hW)
          rw [hbg] at HBG
          have HOK : Hid (hh.length = 0 ∨ startU hh = 0) := (show _ ∨ _ from .inl hl0)
          have HNN : Hid (n = n2) := (show _ = _ from HT.out.d1.len.trans HT.out.d2.len.symm)
          have hp2 : decide ((0 : Int) < (hh.length : Int)) = false := decide_eq_false (by omega)
          clear hbg hl0 HE1
          go_wp2_with fail
          refine (of_ok hh E hh.length cE wo rfl (by omega) HSW.out HOK.out).mono ?_
          unfold OfEnds
          rintro e w4 ⟨p5, L5, c5, rfl, d5, b5⟩
          have HT4 := Lib.hid (show TwoU w w4 p p2 L L2 n c n2 c2 h from ⟨HT.out.d1.below b5, HT.out.d2.below b5, HT.out.ne, HT.out.ap, HT.out.st, hB.trans (b5.mono hB.size)⟩)
          have hp5 : p5 ≠ p := fun e => by have := HT.out.d1.obj.lt; have := d5.low; omega
          have hp52 : p5 ≠ p2 := fun e => by have := HT.out.d2.obj.lt; have := d5.low; omega
          have HD5 := Lib.hid d5
          have HSW4 := Lib.hid (HSW.out.below b5)
          have hle5 := hB.size
          clear HT hB HSW d5 b5
          go_wp2_with fail
          refine (HBG.out _ HSW4.out).mono ?_
          rintro e w5 ⟨rfl, q5, rfl⟩
          have HT5 := Lib.hid (HT4.out.drewN q5)
          have HD6 := Lib.hid (HD5.out.drewN q5)
          have HSW5 := Lib.hid (HSW4.out.drewN q5)
          clear HT4 HD5 HSW4 HBG
          generalize w4.drewN q5 = w5 at *
          go_wp2_with fail
          refine (end_calls w.heap.size p n c L h w5 HT5.out.d1 (by omega)).mono ?_
          unfold EndEnds
          rintro e w6 ⟨D6, cD6, rfl, _, o6, g6⟩
          have HO6 := Lib.hid o6
          have HD26 := Lib.hid (HT5.out.d2.only2 HT5.out.d1 g6 (Ne.symm HT5.out.ne))
          have HD7 := Lib.hid (HD6.out.only2 HT5.out.d1 g6 hp5)
          have hB6 := below_only HT5.out.bel g6 HT5.out.bel.size HT5.out.d1.low
          have HSW6 := Lib.hid (HSE.out.below hB6)
          clear HT5 HD6 HSW5 g6 o6
          go_wp2_with fail
          refine (end_calls w.heap.size p2 n2 c2 L2 h w6 HD26.out (by omega)).mono ?_
          unfold EndEnds
          rintro e w7 ⟨D7, cD7, rfl, _, o7, g7⟩
          have HO67 := Lib.hid (HO6.out.only HD26.out.obj (by decide) g7)
          have HO7 := Lib.hid o7
          have HD8 := Lib.hid (HD7.out.only2 HD26.out g7 hp52)
          have hB7 := below_only hB6 g7 hB6.size HD26.out.low
          clear HO6 HD26 HD7 HSW6 g7 o7 hB6
          go_wp2_with fail
          refine (sameG_true D6 D7 n n2 cD6 cD7 (List.replicate n (65533, 1)) w7 (by rw [List.length_replicate]) (by rw [List.length_replicate]; exact HNN.out) (by omega) HO67.out.sl (by rw [HNN.out]; exact HO7.out.sl)).mono ?_
          rintro e w8 ⟨rfl, q8, rfl⟩
          have HD9 := Lib.hid (HD8.out.drewN q8)
          have hB8 := below_drewN hB7 q8
          clear HO67 HO7 HD8 hB7
          generalize w7.drewN q8 = w8 at *
          go_wp2_with fail
          refine (held_calls wo.heap.size p5 hh.length c5 L5 hh w8 HD9.out (by omega)).mono ?_
          unfold HeldEnds
          rintro e w9 ⟨D9, c9, rfl, o9, b9⟩
          have hB9 := hB8.trans (b9.mono hB8.size)
          have hs9 := o9.sl
          have HS9 := Lib.hid (HSE.out.below hB9)
          clear HD9 hB8 b9 o9
          go_wp2_with fail
          refine (sameB_calls D9 E hh.length hh.length c9 cE hh hh w9 rfl rfl (by omega) (by omega) hs9 HS9.out).mono ?_
          rintro e w10 ⟨rfl, q10, rfl⟩
          rw [eqL_self]
          have hB10 := below_drewN hB9 q10
          clear hs9 HS9 hB9
          generalize w9.drewN q10 = w10 at *
          go_wp2_with fail
          refine (utfRuns_calls _).mono ?_
          rintro e w11 ⟨rfl, b11⟩
          go_wp2_with fail
          go_ret
          exact ⟨rfl, hB10.trans (b11.mono hB10.size)⟩
end Go.Proofs.Ytepmnhlfjidhjaa
