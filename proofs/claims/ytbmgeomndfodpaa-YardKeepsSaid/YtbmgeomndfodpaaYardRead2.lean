/-
  The contract of yard's Read: the walk.
-/
import Derived.Test.YtbmgeomndfodpaaYardRead
namespace Go.Proofs.Ytbmgeomndfodpaa
open Go.RowKit Go.Mem Go.Proofs

/-- the table's answer at a number -/
theorem Yd.ask_calls {w : World} {B y : Nat} {m : List MF} {tk : List (Int × Int)} {pF pT : Nat} {DK DV DK2 DV2 : Option Addr} {vs : List Fl} (h : Yd w B y m tk pF pT DK DV DK2 DV2 vs) (hm : m.length ≤ 1000000) {k : Int} (hw : whoM k m = none) :
    Calls Try.prog 54 #[.pointer (some ⟨pF, 0, none⟩), .int .i64 k] w fun e w' => e = .returned (.tuple #[zFl.val, .bool false]) ∧ Yd w' B y m tk pF pT DK DV DK2 DV2 vs ∧ Below w.heap.size w w' := by
  obtain ⟨i, hat⟩ := Tab.At.ex ordI (m.map MF.ino) h.rf k
  have hno : (m.map MF.ino)[i]? ≠ some k := fun e => by
    obtain ⟨z, hz, h0⟩ := List.mem_map.1 (List.mem_of_getElem? e)
    exact whoM_none hw z hz h0
  refine (getIF_calls B pF DK DV (m.map MF.ino) vs k i w h.f h.rf hat (by rw [List.length_map]; exact hm)).mono ?_
  unfold GetEndsIF
  rw [if_neg hno, decide_eq_false hno]
  rintro e w' ⟨rfl, hb⟩
  exact ⟨rfl, h.below hb, hb⟩
set_option maxRecDepth 100000 in
set_option maxHeartbeats 3200000 in
theorem read_calls {w : World} {B y : Nat} {m : List MF} {tk : List (Int × Int)} {S : Nat → Prop} (h : YS w B y m tk S) (hg : Gd m) (k a n : Int) (hl : tk.length ≤ 100000) (ht0 : 0 ≤ takenM k tk) (ht1 : takenM k tk ≤ 4611686018427387904) (hBw : B ≤ w.heap.size) :
    Calls Try.prog 21 #[.pointer (some ⟨y, 0, none⟩), .int .i64 k, .int .i64 a, .int .i64 n] w (ReadEnds w B y (readB k a n m) (readNo k a n m) m (readT k a n m tk) S) := by
  obtain ⟨pF, pT, DK, DV, DK2, DV2, vs, h, rfl⟩ := h
  have hlen := hg.len
  have hm : m.length ≤ 1000000 := by omega
  have c0 := h.b.cell 0
  simp only [List.getElem?_cons_zero] at c0
  cases hf : whoM k m with
  | none =>
    obtain ⟨e1, e2, e3⟩ := read_none (a := a) (n := n) (tk := tk) hf
    rw [e1, e2, e3]
    have HG := Lib.hid (h.ask_calls hm hf)
    unfold Fl.val zFl at HG
    clear h hg
    go_enter Try.func21, Try.ntmps21
    go_wp2_with fail
    refine HG.out.mono ?_
    rintro e w1 ⟨rfl, h1, b1⟩
    have H1 : Hid (ReadEnds w B y [] 7 m tk (FootY pF pT y DK DV DK2 DV2 vs) (.returned (.tuple #[.slice none 0 0, .int .i64 7])) (w1.alloc (.cells #[.string ⟨#[]⟩, .slice none 0 0] 91))) := (show ReadEnds _ _ _ _ _ _ _ _ _ _ from ReadEnds.none (h1.below ((Below.refl _ _).alloc (Nat.le_refl _) _)) (b1.alloc b1.size _) hBw)
    clear h1 b1
    go_wp2_with fail
    go_ret2
    exact H1.out
  | some x =>
    obtain ⟨hno, i, hx⟩ := whoM_some hf
    subst hno
    have hil : i < vs.length := by rw [h.len]; exact (List.getElem?_eq_some_iff.1 hx).1
    obtain ⟨f, hfv⟩ : ∃ f, vs[i]? = some f := ⟨vs[i], List.getElem?_eq_getElem hil⟩
    obtain ⟨o1, o2, o3⟩ := h.own i f x hfv hx
    have hmx := hg.mx x (List.mem_of_getElem? hx)
    have HG := Lib.hid (h.get_calls hm hx hfv)
    by_cases hbad : a < 0 ∨ n < 0
    · obtain ⟨e1, e2, e3⟩ := read_bad (tk := tk) hf hbad
      rw [e1, e2, e3]
      have hgt : a < 0 ∨ (¬ a < 0 ∧ n < 0) := by omega
      obtain ⟨f1, f2, f3, f4⟩ := f
      unfold Fl.val at HG
      clear h hg hf hx hfv o1 o2 o3 hbad e1 e2 e3 hmx hil
      generalize x.ino = no at *
      rcases hgt with hgt | ⟨hgt, hgt2⟩
      all_goals
        go_enter Try.func21, Try.ntmps21
        go_wp2_with fail
        refine HG.out.mono ?_
        rintro e w1 ⟨rfl, h1, b1⟩
        have H1 : Hid (ReadEnds w B y [] 1 m tk (FootY pF pT y DK DV DK2 DV2 vs) (.returned (.tuple #[.slice none 0 0, .int .i64 1])) (w1.alloc (.cells #[.string f1, .slice f2 f3 f4] 91))) := (show ReadEnds _ _ _ _ _ _ _ _ _ _ from ReadEnds.none (h1.below ((Below.refl _ _).alloc (Nat.le_refl _) _)) (b1.alloc b1.size _) hBw)
        clear h1 b1
        go_wp2_with fail
        go_ret2
        exact H1.out
    · obtain ⟨e1, e2, e3⟩ := read_ok (tk := tk) hf hbad
      rw [e1, e2, e3]
      obtain ⟨a, rfl⟩ : ∃ a' : Nat, a = (a' : Int) := ⟨a.toNat, by omega⟩
      obtain ⟨n, rfl⟩ : ∃ n' : Nat, n = (n' : Int) := ⟨n.toNat, by omega⟩
      rw [Int.toNat_natCast, Int.toNat_natCast]
      have ha0 : ¬ (a : Int) < 0 := by omega
      have hn0 : ¬ (n : Int) < 0 := by omega
      have hlen2 : f.n = x.data.length := o2
      have hle := o3.le
      have hf3 : f.n ≤ 65536 := by omega
      obtain ⟨lo, hlo⟩ : ∃ lo, lo = min a f.n := ⟨_, rfl⟩
      obtain ⟨q, hq⟩ : ∃ q, q = min n (f.n - lo) := ⟨_, rfl⟩
      obtain ⟨BS, hBS⟩ : ∃ BS, BS = (x.data.drop a).take n := ⟨_, rfl⟩
      have hBl : BS.length = q := by rw [hBS, List.length_take, List.length_drop]; omega
      obtain ⟨A', hA'⟩ : ∃ A', (if f.c = lo then f.d else Option.map (fun x => x.add lo) f.d) = A' := ⟨_, rfl⟩
      have HSL : Hid (∀ W, Yd W B y m tk pF pT DK DV DK2 DV2 vs → Sl W A' (BS.map B8)) := (show ∀ W, _ from fun W hW j u hu => by
        have hs := (hW.own i f x hfv hx).2.2.sl
        have hj : j < q := by have := (List.getElem?_eq_some_iff.1 hu).1; rw [List.length_map, hBl] at this; exact this
        have hu2 : (x.data.map B8)[lo + j]? = some u := by
          rw [hBS, List.getElem?_map, List.getElem?_take, if_pos (by omega), List.getElem?_drop] at hu
          rw [List.getElem?_map, show lo + j = a + j by omega]; exact hu
        obtain ⟨b, o, e, hc⟩ := hs _ _ hu2
        refine ⟨b, o + lo, ?_, by rw [Nat.add_assoc]; exact hc⟩
        rw [← hA', if_neg (by omega), e, Option.map_some, Addr.add_lit])
      have HOWN := Lib.hid (fun g (hg2 : g < w.heap.size) (cs : List Value) (_ : Blk w g 5 cs) => hg2)
      have HLT := Lib.hid (show ∀ g, w.heap.size ≤ g → ¬ (g = y ∨ g = pF ∨ g = pT ∨ DK = some ⟨g, 0, none⟩ ∨ DV = some ⟨g, 0, none⟩ ∨ ∃ f ∈ vs, f.d = some ⟨g, 0, none⟩) from fun g hge hs => by
        have hl2 := (show YS w B y m tk (FootY pF pT y DK DV DK2 DV2 vs) from ⟨_, _, _, _, _, _, _, h, rfl⟩).lt g (by
          rcases hs with s | s | s | s | s | s
          · exact .inl s
          · exact .inr (.inl s)
          · exact .inr (.inr (.inl s))
          · exact .inr (.inr (.inr (.inl s)))
          · exact .inr (.inr (.inr (.inr (.inl s))))
          · exact .inr (.inr (.inr (.inr (.inr (.inr (.inr s)))))))
        omega)
      have HT : Hid (∀ W D c, Yd W B y m tk pF pT DK DV DK2 DV2 vs → Below w.heap.size w W → OwnB W w.heap.size 5 1 D q c (BS.map B8) → Calls Try.prog 22 #[.pointer (some ⟨y, 0, none⟩), .int .i64 x.ino] (W.drewN 1) fun e w3 => e = .returned (.int .i64 (takenM x.ino tk)) ∧ w3.cell? ⟨y, 1, none⟩ = some (.pointer (some ⟨pT, 0, none⟩)) ∧
          Hid (Calls Try.prog 59 #[.pointer (some ⟨pT, 0, none⟩), .int .i64 x.ino, .int .i64 (takenM x.ino tk + (q : Int))] w3 fun e w4 => ∃ b, e = .returned (.bool b) ∧ Hid (ReadEnds w B y BS 0 m (setTk x.ino (takenM x.ino tk + (BS.length : Int)) tk) (FootY pF pT y DK DV DK2 DV2 vs) (.returned (.tuple #[.slice D q c, .int .i64 0])) w4))) := (show ∀ W D c, _ from fun W D c hW hb hOD => by
        have hW1 : Yd (W.drewN 1) B y m tk pF pT DK DV DK2 DV2 vs := hW.below (below_drewN (Below.refl _ _) 1)
        refine (taken_calls ⟨_, _, _, _, _, _, _, hW1, rfl⟩ (by omega) x.ino).mono ?_
        rintro e w3 ⟨rfl, r, rfl⟩
        have hb3 : Below w.heap.size w ((W.drewN 1).drewN r) := below_drewN (below_drewN hb 1) r
        have hW2 : Yd ((W.drewN 1).drewN r) B y m tk pF pT DK DV DK2 DV2 vs := hW1.below (below_drewN (Below.refl _ _) r)
        have hO2 : OwnB ((W.drewN 1).drewN r) w.heap.size 5 1 D q c (BS.map B8) := (hOD.drewN 1).drewN r
        refine ⟨rfl, hW2.b.cell 1, (show Calls _ _ _ _ _ from ?_)⟩
        refine (hW2.setT_calls x.ino (takenM x.ino tk + (q : Int)) (by omega) (Nat.le_trans hBw hb3.size)).mono ?_
        rintro e w4 ⟨⟨b, rfl⟩, DK2', DV2', hyd, hfp, hbb, hu8⟩
        refine ⟨b, rfl, (show ReadEnds _ _ _ _ _ _ _ _ _ _ from ?_)⟩
        rw [← hBl] at hO2 hyd ⊢
        refine ⟨D, c, _, rfl, own_keepN hO2 (fun g hgd => ?_), ⟨_, _, _, _, _, _, _, hyd, rfl⟩, (Fp.of_below hb3 _).trans hfp, (hb3.mono hBw).trans hbb, fun g hgd => ?_⟩
        · rw [hgd] at hO2
          obtain ⟨cs, hc⟩ := own_blkN hO2
          exact (hu8 g _ _ hc rfl).1
        · have hge := (own_ltN hO2 hgd).2
          rw [hgd] at hO2
          obtain ⟨cs, hc⟩ := own_blkN hO2
          obtain ⟨_, u2, u3⟩ := hu8 g _ _ hc rfl
          intro hs
          rcases hs with s | s | s | s | s | s | s | s
          · exact HLT.out g hge (.inl s)
          · exact HLT.out g hge (.inr (.inl s))
          · exact HLT.out g hge (.inr (.inr (.inl s)))
          · exact HLT.out g hge (.inr (.inr (.inr (.inl s))))
          · exact HLT.out g hge (.inr (.inr (.inr (.inr (.inl s)))))
          · exact u2 s
          · exact u3 s
          · exact HLT.out g hge (.inr (.inr (.inr (.inr (.inr s))))))
      have HQ := Lib.hid (show q ≤ 1000000 from by omega)
      have HBL := Lib.hid hBl
      have l0 : (0 : Int) ≤ (lo : Int) := by omega
      have l1 : (lo : Int) ≤ (f.n : Int) := by omega
      have l2 : (f.n : Int) ≤ (f.c : Int) := by omega
      have l3 : (lo : Int) ≤ (f.c : Int) := by omega
      have l4 : min (a : Int) (f.n : Int) = (lo : Int) := by omega
      have l5 : min (n : Int) ((f.n - lo : Nat) : Int) = (q : Int) := by omega
      have l6 : (0 : Int) ≤ (q : Int) := by omega
      have l7 : (q : Int) ≤ ((f.n - lo : Nat) : Int) := by omega
      have l8 : ((f.n - lo : Nat) : Int) ≤ ((f.c - lo : Nat) : Int) := by omega
      have l9 : (q : Int) ≤ ((f.c - lo : Nat) : Int) := by omega
      have hwt : IntKind.i64.wrap (takenM x.ino tk + (q : Int)) = takenM x.ino tk + (q : Int) := by rw [IntKind.wrap_i64]; omega
      rw [← hBS]
      obtain ⟨f1, f2, f3, f4⟩ := f
      simp only at hA' l1 l2 l3 l4 l5 l7 l8 l9
      unfold Fl.val at HG
      generalize takenM x.ino tk = tkn at *
      clear h hg hf hx hfv o1 o2 o3 hbad e1 e2 e3 hmx hil hlen2 hle hf3 hlo hq hBS hBl ht0 ht1 HOWN HLT
      go_enter Try.func21, Try.ntmps21
      go_wp2_with fail
      refine HG.out.mono ?_
      rintro e w1 ⟨rfl, h1, b1⟩
      have hbn := Blk.new w1 91 #[.string f1, .slice f2 f3 f4]
      have n0 := hbn.cell 0
      have n1 := hbn.cell 1
      simp only [List.getElem?_cons_zero, List.getElem?_cons_succ] at n0 n1
      have h2 : Yd (w1.alloc (.cells #[.string f1, .slice f2 f3 f4] 91)) B y m tk pF pT DK DV DK2 DV2 vs := h1.below ((Below.refl _ _).alloc (Nat.le_refl _) _)
      have hB2 : Below w.heap.size w (w1.alloc (.cells #[.string f1, .slice f2 f3 f4] 91)) := b1.alloc b1.size _
      have HC := Lib.hid (cloneB_calls A' q (f4 - lo) BS _ (HSL.out _ h2) HBL.out HQ.out)
      have H2 := Lib.hid h2
      have HB2 := Lib.hid hB2
      clear h1 b1 h2 hB2 HSL c0 HG
      go_upto_region 6 with fail
      generalize w1.alloc (.cells #[.string f1, .slice f2 f3 f4] 91) = w2 at *
      go_wp2_with fail
      refine HC.out.mono ?_
      rintro e w3 ⟨D, c, rfl, o3, b3⟩
      have h3 := H2.out.below b3
      have HB3 : Below w.heap.size w w3 := HB2.out.trans (b3.mono HB2.out.size)
      rw [HBL.out] at o3 ⊢
      have HT3 := Lib.hid (HT.out w3 D c h3 HB3 (o3.mono HB2.out.size))
      have c0 : w3.cell? ⟨y, 1, none⟩ = some (.pointer (some ⟨pT, 0, none⟩)) := h3.b.cell 1
      have c1 : (w3.drewN 1).cell? ⟨y, 1, none⟩ = some (.pointer (some ⟨pT, 0, none⟩)) := h3.b.cell 1
      clear o3 b3 h3 HB3 HT H2 HB2 HC n0 n1 hbn
      go_upto_region 8 with fail
      go_region_with (first | (go_at_call 22; refine HT3.out.mono ?_; rintro e w4 ⟨rfl, c4, HS⟩) | (go_at_call 59; refine HS.out.mono ?_; rintro e w5 ⟨b, rfl, HFin⟩))
      all_goals
        go_wp2_with fail
        go_ret2
        exact HFin.out
end Go.Proofs.Ytbmgeomndfodpaa
