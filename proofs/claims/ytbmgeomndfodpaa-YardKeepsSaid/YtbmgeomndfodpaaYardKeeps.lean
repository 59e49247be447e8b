/-
  YardKeeps: behind any calls a file that is renamed again and again keeps its number and its bytes.
-/
import Derived.Test.YtbmgeomndfodpaaYardHold
import Derived.Test.YtbmgeomndfodpaaSameB
namespace Go.Proofs.Ytbmgeomndfodpaa
open Go.RowKit Go.Mem Go.Proofs Go.Law

def nO : ByteArray := ⟨#[111, 119, 110]⟩
theorem sl_at {w : World} {b o : Nat} {xs : List Value} {i : Nat} {v : Value} (h : Sl w (some ⟨b, o, none⟩) xs) (hx : xs[i]? = some v) : w.cell? ⟨b, o + i, none⟩ = some v := by
  obtain ⟨b', o', e, hc⟩ := h i v hx
  injection e with e; injection e with e1 e2
  rw [e1, e2]; exact hc
theorem text_eq {a b : ByteArray} (h : a = b) : (a.toList != b.toList) = false := by subst h; simp
theorem text_ne {a b : ByteArray} (h : a ≠ b) : (a.toList != b.toList) = true := by
  rw [Lib.toList_data, Lib.toList_data]
  exact bne_iff_ne.2 (fun e => h (by obtain ⟨a⟩ := a; obtain ⟨b⟩ := b; exact congrArg ByteArray.mk (Array.toList_inj.1 e)))
theorem text_eq2 {a b : ByteArray} (h : a = b) : (a.toList == b.toList) = true := by subst h; simp
theorem text_ne2 {a b : ByteArray} (h : a ≠ b) : (a.toList == b.toList) = false := by
  have := text_ne h
  simpa using this
theorem ownNew : createNo nO [] = 0 ∧ createM nO [] = [⟨1, nO, []⟩] := ⟨by kernel_rfl, by kernel_rfl⟩
theorem ownApp (data : List UInt8) (hd : data.length ≤ 2000) : appendNo nO data [⟨1, nO, []⟩] = 0 ∧ appendM nO data [⟨1, nO, []⟩] = [⟨1, nO, data⟩] := by
  have hf : findM nO [(⟨1, nO, []⟩ : MF)] = some 0 := by simp [findM]
  have h : ¬ 65536 < ([] : List UInt8).length + data.length := by simp; omega
  unfold appendNo appendM
  rw [hf]
  exact ⟨if_neg h, if_neg h⟩
set_option maxRecDepth 100000 in
set_option maxHeartbeats 12800000 in
theorem yardKeeps_calls (A0 A1 A2 : Option Addr) (n0 n1 dl c0 c1 c2 : Nat) (rs : List Ask7) (ss : List ByteArray) (data : List UInt8) (w : World) (hl0 : rs.length = n0) (hs0 : RowsAt w A0 7 (rs.map Ask7.cells)) (hok : ∀ r ∈ rs, r.Ok w) (hl1 : ss.length = n1) (hs1 : Sl w A1 (ss.map Value.string)) (hz1 : ∀ s ∈ ss, s.size ≤ 9223372036854775807) (hl2 : data.length = dl) (hs2 : Sl w A2 (data.map B8)) :
    Calls Try.prog 5 #[.slice A0 n0 c0, .slice A1 n1 c1, .slice A2 dl c2] w fun e w' => e = .returned (.bool true) ∧ Below w.heap.size w w' := by
  have HS0 := Lib.hid hs0
  have HP0 := Lib.hid hok
  have HL0 := Lib.hid hl0
  have HS1 := Lib.hid hs1
  have HZ1 := Lib.hid hz1
  have HL1 := Lib.hid hl1
  have HS2 := Lib.hid hs2
  have HDL := Lib.hid hl2
  clear hs0 hok hl0 hs1 hz1 hl1 hs2 hl2
  have hne1 : ((1 : Int) != 1) = false := by decide
  have hne2 : ((dl : Int) != (dl : Int)) = false := by simp
  go_enter Try.func5, Try.ntmps5
  by_cases hbig : 2000 < dl
  · have g1 : (2000 : Int) < (dl : Int) := by omega
    go_wp2_with fail
    refine (newV w).mono ?_
    rintro e w1 ⟨y, S1, rfl, _, b1⟩
    go_wp2_with fail
    refine (yardRuns_calls _).mono ?_
    rintro e w2 ⟨rfl, b2⟩
    have HB2 := Lib.hid (b1.trans (b2.mono b1.size))
    clear b1 b2
    go_wp2_with fail
    go_ret
    exact ⟨rfl, HB2.out⟩
  · have g1 : ¬ (2000 : Int) < (dl : Int) := by omega
    have OA := Lib.hid (ownApp data (by rw [HDL.out]; omega))
    go_wp2_with fail
    refine (newV w).mono ?_
    rintro e w1 ⟨y, S1, rfl, h1, b1⟩
    go_wp2_with fail
    refine (createV h1 nO ownNew.1 ownNew.2 (by decide)).mono ?_
    rintro e w2 ⟨rfl, S2, h2, _, b2⟩
    have B2 := b1.trans b2
    have HC2 := Lib.hid (appendV h2 nO A2 dl c2 data OA.out.1 OA.out.2 HDL.out (HS2.out.below B2))
    have HB2 := Lib.hid B2
    clear h1 b1 b2 h2 B2
    go_wp2_with fail
    refine HC2.out.mono ?_
    rintro e w3 ⟨rfl, S3, h3, _, b3⟩
    have HO : Hid (Hold data nO [⟨1, nO, data⟩]) := (show Hold _ _ _ from ⟨0, rfl⟩)
    have HF3 := Lib.hid (fndV h3 nO (HO.out.find h3.g).1 (HO.out.find h3.g).2)
    rw [HDL.out] at HF3
    have HB3 := Lib.hid (HB2.out.trans b3)
    clear HC2 h3 b3 HB2
    go_wp2_with fail
    refine HF3.out.mono ?_
    rintro e w4 ⟨rfl, h4, b4⟩
    have hbn := Blk.new w4 31 #[.int .i64 1, .string nO, .int .i64 (dl : Int)]
    have hns : ¬ S3 w4.heap.size := fun e => by have := (h4.s.lt _ e).2; omega
    have HY := Lib.hid (h4.alloc (.cells #[.int .i64 1, .string nO, .int .i64 (dl : Int)] 31))
    have HB : Hid (Below w.heap.size w (w4.alloc (.cells #[.int .i64 1, .string nO, .int .i64 (dl : Int)] 31))) := (show Below _ _ _ from (HB3.out.trans (b4.mono HB3.out.size)).alloc (HB3.out.trans (b4.mono HB3.out.size)).size _)
    have HK := Lib.hid hbn
    have HN := Lib.hid hns
    clear HF3 HB3 h4 b4 hbn hns OA
    go_upto_region 7 with fail
    generalize w4.alloc (.cells #[.int .i64 1, .string nO, .int .i64 (dl : Int)] 31) = w5 at *
    generalize w4.heap.size = fbk at *
    go_wp2_with fail
    go_loopw [10, 11] (fun s10 s11 wr => ∃ (i : Nat) (m : List MF) (S : Nat → Prop) (at_ : ByteArray) (tk : List (Int × Int)) (tkn : Int), i ≤ 20 ∧ i ≤ n1 ∧ s11 = .int .i64 i ∧ s10 = .string at_ ∧ 0 ≤ tkn ∧ tkn ≤ 2000 * (i : Int) ∧ tk.length ≤ i ∧ Hid (takenM 1 tk = tkn) ∧ Hid (YV wr w.heap.size y m tk S) ∧ Hid (Hold data at_ m) ∧ Hid (Blk wr fbk 31 [.int .i64 1, .string nO, .int .i64 (dl : Int)]) ∧ Hid (¬ S fbk) ∧ Hid (Below w.heap.size w wr)) (fun _ s11 _ => 20 - (intOf s11).toNat)
    case atStart => exact ⟨0, _, S3, nO, [], 0, by decide, Nat.zero_le _, rfl, rfl, by decide, by decide, Nat.zero_le _, (show _ = _ from rfl), HY, HO, HK, HN, HB⟩
    case round =>
      clear HY HO HK HN HB
      obtain ⟨i, m, S, at_, tk, tkn, hi20, hin, rfl, rfl, ht0, ht1, htl, HTK, HY, HH, HK, HN, HB⟩ := hrel
      by_cases hlt : i < 20 ∧ i < n1
      · obtain ⟨hlt1, hlt2⟩ := hlt
        have i1 : (0 : Int) ≤ (i : Int) := by omega
        have i2 : (i : Int) < 20 := by omega
        have i3 : (i : Int) < (n1 : Int) := by omega
        have hw1 : IntKind.i64.wrap ((i : Int) + 1) = (i : Int) + 1 := by rw [IntKind.wrap_i64]; omega
        have hpi : i < ss.length := by rw [HL1.out]; exact hlt2
        have hst : (ss.map Value.string)[i]? = some (.string ss[i]) := by rw [List.getElem?_map, List.getElem?_eq_getElem hpi]; rfl
        have HTZ := Lib.hid (HZ1.out ss[i] (List.getElem_mem hpi))
        generalize ss[i] = t at hst HTZ
        obtain ⟨b1, o1, e1, _⟩ := HS1.out i _ hst
        subst e1
        by_cases hn0 : i < n0
        · have i4 : (i : Int) < (n0 : Int) := by omega
          have hpr : i < rs.length := by rw [HL0.out]; exact hn0
          obtain ⟨pb, po, e0, k0, _, _, _, k4, k5, k6⟩ := RowsAt.seven (HS0.out.below HB.out) (List.getElem?_eq_getElem hpr)
          have HOK := Lib.hid (HP0.out rs[i] (List.getElem_mem hpr))
          generalize rs[i] = r at *
          obtain ⟨r1, r2, r3, r4, r5, r6, r7, r8, r9⟩ := r
          simp only at k0 k4 k5 k6
          subst e0
          have HSL : Hid (Sl w r7 (r9.map B8)) := (show Sl _ _ _ from HOK.out.sl)
          have HN5 : Hid (r5.size ≤ 9223372036854775807) := (show _ ≤ _ from HOK.out.name)
          obtain ⟨dn, hdn⟩ : ∃ dn, r9.length = dn := ⟨_, rfl⟩
          have HDN := Lib.hid hdn
          rw [hdn] at k6
          clear HOK hdn
          by_cases hA : r5 = at_
          · have x1 := text_eq hA
            have x1' := text_eq2 hA
            clear hA
            have HYp := HY
            have HHp := HH
            have HBp := HB
            have HKp := HK
            have HNp := HN
            clear HY HH HB HK HN
            go_upto_region 19 with fail
            clear k0 k4 k5 k6
            have kt := sl_at (HS1.out.below HBp.out) hst
            rcases HHp.out.rename (t := t) HYp.out.g with ⟨e0, hh⟩ | ⟨e0, em⟩
            · have HC := Lib.hid (renameV HYp.out at_ t e0 rfl HTZ.out)
              have HH5 := Lib.hid hh
              generalize renameM at_ t m = m5 at *
              clear e0 hh HYp HHp
              go_wp2_with fail
              refine HC.out.mono ?_
              rintro e w5 ⟨rfl, S5, h5, f5, b5⟩
              have HK5 : Hid (Blk w5 fbk 31 [.int .i64 1, .string nO, .int .i64 (dl : Int)]) := (show Blk _ _ _ _ from (f5.k fbk HKp.out.lt HNp.out).trans HKp.out)
              have HN5 : Hid (¬ S5 fbk) := (show ¬ _ from fun e => HNp.out (f5.n fbk HKp.out.lt e))
              have HY5 := Lib.hid h5
              have HB5 := Lib.hid (HBp.out.trans b5)
              have kt5 := sl_at (HS1.out.below HB5.out) hst
              clear HC h5 f5 b5 HKp HNp HBp kt
              have HFD := Lib.hid (HY5.out.g)
              have HF := Lib.hid (fndV HY5.out t (HH5.out.find HFD.out).1 (HH5.out.find HFD.out).2)
              rw [HDL.out] at HF
              go_wp2_with fail
              refine HF.out.mono ?_
              rintro e w6 ⟨rfl, h6, b6⟩
              have hgb : ¬ S5 w6.heap.size := fun e => by have := (h6.s.lt _ e).2; omega
              have hbn := Blk.new w6 31 #[.int .i64 1, .string t, .int .i64 (dl : Int)]
              have HY7 := Lib.hid (h6.alloc (.cells #[.int .i64 1, .string t, .int .i64 (dl : Int)] 31))
              have HB7 : Hid (Below w.heap.size w (w6.alloc (.cells #[.int .i64 1, .string t, .int .i64 (dl : Int)] 31))) := (show Below _ _ _ from (HB5.out.trans (b6.mono HB5.out.size)).alloc (HB5.out.trans (b6.mono HB5.out.size)).size _)
              have HK7 := Lib.hid ((HK5.out.below b6 HK5.out.lt).alloc (.cells #[.int .i64 1, .string t, .int .i64 (dl : Int)] 31))
              have HGB := Lib.hid hbn
              have HNG := Lib.hid hgb
              clear HF HY5 HB5 HK5 h6 b6 hgb hbn
              go_upto_region 22 with fail
              generalize w6.alloc (.cells #[.int .i64 1, .string t, .int .i64 (dl : Int)] 31) = w7 at *
              generalize w6.heap.size = gb at *
              have k0 := HK7.out.cell 0
              simp only [List.getElem?_cons_zero] at k0
              have rd := HH5.out.read HFD.out (by rw [HDL.out]; omega) tk
              rw [HDL.out, HTK.out] at rd
              have HR := Lib.hid (readV HY7.out 1 0 65536 rd.1 HDL.out rd.2.1 rd.2.2 (by omega) (by rw [HTK.out]; exact ht0) (by rw [HTK.out]; omega))
              have HTK2 : Hid (takenM 1 (setTk 1 (tkn + (dl : Int)) tk) = tkn + (dl : Int)) := (show _ = _ from by rw [takenM_set, if_pos rfl])
              have htl2 : (setTk 1 (tkn + (dl : Int)) tk).length ≤ i + 1 := by have := setTk_len 1 (tkn + (dl : Int)) tk; omega
              generalize setTk 1 (tkn + (dl : Int)) tk = tk2 at *
              clear HY7 rd
              go_wp2_with fail
              refine HR.out.mono ?_
              rintro e w8 ⟨DB, cb, S8, rfl, ob, h8, f8, b8, _⟩
              have hk8 : Blk w8 fbk 31 [.int .i64 1, .string nO, .int .i64 (dl : Int)] := (f8.k fbk HK7.out.lt HN5.out).trans HK7.out
              have hn8 : ¬ S8 fbk := fun e => HN5.out (f8.n fbk HK7.out.lt e)
              have hg8 : Blk w8 gb 31 [.int .i64 1, .string t, .int .i64 (dl : Int)] := (f8.k gb HGB.out.lt HNG.out).trans HGB.out
              have hb8 := HB7.out.trans b8
              have HS := Lib.hid (sameB_calls DB A2 dl dl cb c2 data data w8 HDL.out HDL.out (by omega) (by omega) ob.sl (HS2.out.below hb8))
              rw [eqL_self] at HS
              have m0 := hk8.cell 0
              have p0 := hg8.cell 0
              have p2 := hg8.cell 2
              simp only [List.getElem?_cons_zero, List.getElem?_cons_succ] at m0 p0 p2
              have HY8 := Lib.hid h8
              have HK8 := Lib.hid hk8
              have HN8 := Lib.hid hn8
              have HB8 := Lib.hid hb8
              clear HR ob h8 f8 b8 hk8 hn8 hg8 hb8 HK7 HGB HNG HB7 k0
              go_wp2_with fail
              refine HS.out.mono ?_
              rintro e w9 ⟨rfl, q9, hq9⟩
              have HY9 : Hid (YV w9 w.heap.size y m5 tk2 S8) := (show YV _ _ _ _ _ _ from by rw [hq9]; exact HY8.out.drewN q9)
              have HK9 : Hid (Blk w9 fbk 31 [.int .i64 1, .string nO, .int .i64 (dl : Int)]) := (show Blk _ _ _ _ from by rw [hq9]; exact HK8.out.drewN q9)
              have HB9 : Hid (Below w.heap.size w w9) := (show Below _ _ _ from by rw [hq9]; exact below_drewN HB8.out q9)
              clear HY8 HK8 HB8 HS hq9 m0 p0 p2
              go_wp2_with fail
              exact ⟨⟨i + 1, m5, S8, t, tk2, tkn + (dl : Int), by omega, by omega, rfl, rfl, by omega, by omega, htl2, HTK2, HY9, HH5, HK9, HN8, HB9⟩, by simp [intOf]; omega⟩
            · have HC := Lib.hid (renameV HYp.out at_ t rfl em HTZ.out)
              have HH5 := Lib.hid HHp.out
              generalize renameNo at_ t m = no at *
              clear em HYp HHp
              go_wp2_with fail
              refine HC.out.mono ?_
              rintro e w5 ⟨rfl, S5, h5, f5, b5⟩
              have HK5 : Hid (Blk w5 fbk 31 [.int .i64 1, .string nO, .int .i64 (dl : Int)]) := (show Blk _ _ _ _ from (f5.k fbk HKp.out.lt HNp.out).trans HKp.out)
              have HN5 : Hid (¬ S5 fbk) := (show ¬ _ from fun e => HNp.out (f5.n fbk HKp.out.lt e))
              have HY5 := Lib.hid h5
              have HB5 := Lib.hid (HBp.out.trans b5)
              clear HC h5 f5 b5 HKp HNp HBp kt
              have HFD := Lib.hid (HY5.out.g)
              have HF := Lib.hid (fndV HY5.out at_ (HH5.out.find HFD.out).1 (HH5.out.find HFD.out).2)
              rw [HDL.out] at HF
              go_wp2_with fail
              refine HF.out.mono ?_
              rintro e w6 ⟨rfl, h6, b6⟩
              have hgb : ¬ S5 w6.heap.size := fun e => by have := (h6.s.lt _ e).2; omega
              have hbn := Blk.new w6 31 #[.int .i64 1, .string at_, .int .i64 (dl : Int)]
              have HY7 := Lib.hid (h6.alloc (.cells #[.int .i64 1, .string at_, .int .i64 (dl : Int)] 31))
              have HB7 : Hid (Below w.heap.size w (w6.alloc (.cells #[.int .i64 1, .string at_, .int .i64 (dl : Int)] 31))) := (show Below _ _ _ from (HB5.out.trans (b6.mono HB5.out.size)).alloc (HB5.out.trans (b6.mono HB5.out.size)).size _)
              have HK7 := Lib.hid ((HK5.out.below b6 HK5.out.lt).alloc (.cells #[.int .i64 1, .string at_, .int .i64 (dl : Int)] 31))
              have HGB := Lib.hid hbn
              have HNG := Lib.hid hgb
              clear HF HY5 HB5 HK5 h6 b6 hgb hbn
              go_upto_region 22 with fail
              generalize w6.alloc (.cells #[.int .i64 1, .string at_, .int .i64 (dl : Int)] 31) = w7 at *
              generalize w6.heap.size = gb at *
              have k0 := HK7.out.cell 0
              simp only [List.getElem?_cons_zero] at k0
              have rd := HH5.out.read HFD.out (by rw [HDL.out]; omega) tk
              rw [HDL.out, HTK.out] at rd
              have HR := Lib.hid (readV HY7.out 1 0 65536 rd.1 HDL.out rd.2.1 rd.2.2 (by omega) (by rw [HTK.out]; exact ht0) (by rw [HTK.out]; omega))
              have HTK2 : Hid (takenM 1 (setTk 1 (tkn + (dl : Int)) tk) = tkn + (dl : Int)) := (show _ = _ from by rw [takenM_set, if_pos rfl])
              have htl2 : (setTk 1 (tkn + (dl : Int)) tk).length ≤ i + 1 := by have := setTk_len 1 (tkn + (dl : Int)) tk; omega
              generalize setTk 1 (tkn + (dl : Int)) tk = tk2 at *
              clear HY7 rd
              go_wp2_with fail
              refine HR.out.mono ?_
              rintro e w8 ⟨DB, cb, S8, rfl, ob, h8, f8, b8, _⟩
              have hk8 : Blk w8 fbk 31 [.int .i64 1, .string nO, .int .i64 (dl : Int)] := (f8.k fbk HK7.out.lt HN5.out).trans HK7.out
              have hn8 : ¬ S8 fbk := fun e => HN5.out (f8.n fbk HK7.out.lt e)
              have hg8 : Blk w8 gb 31 [.int .i64 1, .string at_, .int .i64 (dl : Int)] := (f8.k gb HGB.out.lt HNG.out).trans HGB.out
              have hb8 := HB7.out.trans b8
              have HS := Lib.hid (sameB_calls DB A2 dl dl cb c2 data data w8 HDL.out HDL.out (by omega) (by omega) ob.sl (HS2.out.below hb8))
              rw [eqL_self] at HS
              have m0 := hk8.cell 0
              have p0 := hg8.cell 0
              have p2 := hg8.cell 2
              simp only [List.getElem?_cons_zero, List.getElem?_cons_succ] at m0 p0 p2
              have HY8 := Lib.hid h8
              have HK8 := Lib.hid hk8
              have HN8 := Lib.hid hn8
              have HB8 := Lib.hid hb8
              clear HR ob h8 f8 b8 hk8 hn8 hg8 hb8 HK7 HGB HNG HB7 k0
              go_wp2_with fail
              refine HS.out.mono ?_
              rintro e w9 ⟨rfl, q9, hq9⟩
              have HY9 : Hid (YV w9 w.heap.size y m tk2 S8) := (show YV _ _ _ _ _ _ from by rw [hq9]; exact HY8.out.drewN q9)
              have HK9 : Hid (Blk w9 fbk 31 [.int .i64 1, .string nO, .int .i64 (dl : Int)]) := (show Blk _ _ _ _ from by rw [hq9]; exact HK8.out.drewN q9)
              have HB9 : Hid (Below w.heap.size w w9) := (show Below _ _ _ from by rw [hq9]; exact below_drewN HB8.out q9)
              clear HY8 HK8 HB8 HS hq9 m0 p0 p2
              go_wp2_with fail
              exact ⟨⟨i + 1, m, S8, at_, tk2, tkn + (dl : Int), by omega, by omega, rfl, rfl, by omega, by omega, htl2, HTK2, HY9, HH5, HK9, HN8, HB9⟩, by simp [intOf]; omega⟩
          · have x1 := text_ne hA
            have x1' := text_ne2 hA
            by_cases hB : r6 = at_
            · have x2 := text_eq hB
              have x2' := text_eq2 hB
              clear hB
              have HYp := HY
              have HHp := HH
              have HBp := HB
              have HKp := HK
              have HNp := HN
              clear HY HH HB HK HN
              go_upto_region 19 with fail
              clear k0 k4 k5 k6
              have kt := sl_at (HS1.out.below HBp.out) hst
              rcases HHp.out.rename (t := t) HYp.out.g with ⟨e0, hh⟩ | ⟨e0, em⟩
              · have HC := Lib.hid (renameV HYp.out at_ t e0 rfl HTZ.out)
                have HH5 := Lib.hid hh
                generalize renameM at_ t m = m5 at *
                clear e0 hh HYp HHp
                go_wp2_with fail
                refine HC.out.mono ?_
                rintro e w5 ⟨rfl, S5, h5, f5, b5⟩
                have HK5 : Hid (Blk w5 fbk 31 [.int .i64 1, .string nO, .int .i64 (dl : Int)]) := (show Blk _ _ _ _ from (f5.k fbk HKp.out.lt HNp.out).trans HKp.out)
                have HN5 : Hid (¬ S5 fbk) := (show ¬ _ from fun e => HNp.out (f5.n fbk HKp.out.lt e))
                have HY5 := Lib.hid h5
                have HB5 := Lib.hid (HBp.out.trans b5)
                have kt5 := sl_at (HS1.out.below HB5.out) hst
                clear HC h5 f5 b5 HKp HNp HBp kt
                have HFD := Lib.hid (HY5.out.g)
                have HF := Lib.hid (fndV HY5.out t (HH5.out.find HFD.out).1 (HH5.out.find HFD.out).2)
                rw [HDL.out] at HF
                go_wp2_with fail
                refine HF.out.mono ?_
                rintro e w6 ⟨rfl, h6, b6⟩
                have hgb : ¬ S5 w6.heap.size := fun e => by have := (h6.s.lt _ e).2; omega
                have hbn := Blk.new w6 31 #[.int .i64 1, .string t, .int .i64 (dl : Int)]
                have HY7 := Lib.hid (h6.alloc (.cells #[.int .i64 1, .string t, .int .i64 (dl : Int)] 31))
                have HB7 : Hid (Below w.heap.size w (w6.alloc (.cells #[.int .i64 1, .string t, .int .i64 (dl : Int)] 31))) := (show Below _ _ _ from (HB5.out.trans (b6.mono HB5.out.size)).alloc (HB5.out.trans (b6.mono HB5.out.size)).size _)
                have HK7 := Lib.hid ((HK5.out.below b6 HK5.out.lt).alloc (.cells #[.int .i64 1, .string t, .int .i64 (dl : Int)] 31))
                have HGB := Lib.hid hbn
                have HNG := Lib.hid hgb
                clear HF HY5 HB5 HK5 h6 b6 hgb hbn
                go_upto_region 22 with fail
                generalize w6.alloc (.cells #[.int .i64 1, .string t, .int .i64 (dl : Int)] 31) = w7 at *
                generalize w6.heap.size = gb at *
                have k0 := HK7.out.cell 0
                simp only [List.getElem?_cons_zero] at k0
                have rd := HH5.out.read HFD.out (by rw [HDL.out]; omega) tk
                rw [HDL.out, HTK.out] at rd
                have HR := Lib.hid (readV HY7.out 1 0 65536 rd.1 HDL.out rd.2.1 rd.2.2 (by omega) (by rw [HTK.out]; exact ht0) (by rw [HTK.out]; omega))
                have HTK2 : Hid (takenM 1 (setTk 1 (tkn + (dl : Int)) tk) = tkn + (dl : Int)) := (show _ = _ from by rw [takenM_set, if_pos rfl])
                have htl2 : (setTk 1 (tkn + (dl : Int)) tk).length ≤ i + 1 := by have := setTk_len 1 (tkn + (dl : Int)) tk; omega
                generalize setTk 1 (tkn + (dl : Int)) tk = tk2 at *
                clear HY7 rd
                go_wp2_with fail
                refine HR.out.mono ?_
                rintro e w8 ⟨DB, cb, S8, rfl, ob, h8, f8, b8, _⟩
                have hk8 : Blk w8 fbk 31 [.int .i64 1, .string nO, .int .i64 (dl : Int)] := (f8.k fbk HK7.out.lt HN5.out).trans HK7.out
                have hn8 : ¬ S8 fbk := fun e => HN5.out (f8.n fbk HK7.out.lt e)
                have hg8 : Blk w8 gb 31 [.int .i64 1, .string t, .int .i64 (dl : Int)] := (f8.k gb HGB.out.lt HNG.out).trans HGB.out
                have hb8 := HB7.out.trans b8
                have HS := Lib.hid (sameB_calls DB A2 dl dl cb c2 data data w8 HDL.out HDL.out (by omega) (by omega) ob.sl (HS2.out.below hb8))
                rw [eqL_self] at HS
                have m0 := hk8.cell 0
                have p0 := hg8.cell 0
                have p2 := hg8.cell 2
                simp only [List.getElem?_cons_zero, List.getElem?_cons_succ] at m0 p0 p2
                have HY8 := Lib.hid h8
                have HK8 := Lib.hid hk8
                have HN8 := Lib.hid hn8
                have HB8 := Lib.hid hb8
                clear HR ob h8 f8 b8 hk8 hn8 hg8 hb8 HK7 HGB HNG HB7 k0
                go_wp2_with fail
                refine HS.out.mono ?_
                rintro e w9 ⟨rfl, q9, hq9⟩
                have HY9 : Hid (YV w9 w.heap.size y m5 tk2 S8) := (show YV _ _ _ _ _ _ from by rw [hq9]; exact HY8.out.drewN q9)
                have HK9 : Hid (Blk w9 fbk 31 [.int .i64 1, .string nO, .int .i64 (dl : Int)]) := (show Blk _ _ _ _ from by rw [hq9]; exact HK8.out.drewN q9)
                have HB9 : Hid (Below w.heap.size w w9) := (show Below _ _ _ from by rw [hq9]; exact below_drewN HB8.out q9)
                clear HY8 HK8 HB8 HS hq9 m0 p0 p2
                go_wp2_with fail
                exact ⟨⟨i + 1, m5, S8, t, tk2, tkn + (dl : Int), by omega, by omega, rfl, rfl, by omega, by omega, htl2, HTK2, HY9, HH5, HK9, HN8, HB9⟩, by simp [intOf]; omega⟩
              · have HC := Lib.hid (renameV HYp.out at_ t rfl em HTZ.out)
                have HH5 := Lib.hid HHp.out
                generalize renameNo at_ t m = no at *
                clear em HYp HHp
                go_wp2_with fail
                refine HC.out.mono ?_
                rintro e w5 ⟨rfl, S5, h5, f5, b5⟩
                have HK5 : Hid (Blk w5 fbk 31 [.int .i64 1, .string nO, .int .i64 (dl : Int)]) := (show Blk _ _ _ _ from (f5.k fbk HKp.out.lt HNp.out).trans HKp.out)
                have HN5 : Hid (¬ S5 fbk) := (show ¬ _ from fun e => HNp.out (f5.n fbk HKp.out.lt e))
                have HY5 := Lib.hid h5
                have HB5 := Lib.hid (HBp.out.trans b5)
                clear HC h5 f5 b5 HKp HNp HBp kt
                have HFD := Lib.hid (HY5.out.g)
                have HF := Lib.hid (fndV HY5.out at_ (HH5.out.find HFD.out).1 (HH5.out.find HFD.out).2)
                rw [HDL.out] at HF
                go_wp2_with fail
                refine HF.out.mono ?_
                rintro e w6 ⟨rfl, h6, b6⟩
                have hgb : ¬ S5 w6.heap.size := fun e => by have := (h6.s.lt _ e).2; omega
                have hbn := Blk.new w6 31 #[.int .i64 1, .string at_, .int .i64 (dl : Int)]
                have HY7 := Lib.hid (h6.alloc (.cells #[.int .i64 1, .string at_, .int .i64 (dl : Int)] 31))
                have HB7 : Hid (Below w.heap.size w (w6.alloc (.cells #[.int .i64 1, .string at_, .int .i64 (dl : Int)] 31))) := (show Below _ _ _ from (HB5.out.trans (b6.mono HB5.out.size)).alloc (HB5.out.trans (b6.mono HB5.out.size)).size _)
                have HK7 := Lib.hid ((HK5.out.below b6 HK5.out.lt).alloc (.cells #[.int .i64 1, .string at_, .int .i64 (dl : Int)] 31))
                have HGB := Lib.hid hbn
                have HNG := Lib.hid hgb
                clear HF HY5 HB5 HK5 h6 b6 hgb hbn
                go_upto_region 22 with fail
                generalize w6.alloc (.cells #[.int .i64 1, .string at_, .int .i64 (dl : Int)] 31) = w7 at *
                generalize w6.heap.size = gb at *
                have k0 := HK7.out.cell 0
                simp only [List.getElem?_cons_zero] at k0
                have rd := HH5.out.read HFD.out (by rw [HDL.out]; omega) tk
                rw [HDL.out, HTK.out] at rd
                have HR := Lib.hid (readV HY7.out 1 0 65536 rd.1 HDL.out rd.2.1 rd.2.2 (by omega) (by rw [HTK.out]; exact ht0) (by rw [HTK.out]; omega))
                have HTK2 : Hid (takenM 1 (setTk 1 (tkn + (dl : Int)) tk) = tkn + (dl : Int)) := (show _ = _ from by rw [takenM_set, if_pos rfl])
                have htl2 : (setTk 1 (tkn + (dl : Int)) tk).length ≤ i + 1 := by have := setTk_len 1 (tkn + (dl : Int)) tk; omega
                generalize setTk 1 (tkn + (dl : Int)) tk = tk2 at *
                clear HY7 rd
                go_wp2_with fail
                refine HR.out.mono ?_
                rintro e w8 ⟨DB, cb, S8, rfl, ob, h8, f8, b8, _⟩
                have hk8 : Blk w8 fbk 31 [.int .i64 1, .string nO, .int .i64 (dl : Int)] := (f8.k fbk HK7.out.lt HN5.out).trans HK7.out
                have hn8 : ¬ S8 fbk := fun e => HN5.out (f8.n fbk HK7.out.lt e)
                have hg8 : Blk w8 gb 31 [.int .i64 1, .string at_, .int .i64 (dl : Int)] := (f8.k gb HGB.out.lt HNG.out).trans HGB.out
                have hb8 := HB7.out.trans b8
                have HS := Lib.hid (sameB_calls DB A2 dl dl cb c2 data data w8 HDL.out HDL.out (by omega) (by omega) ob.sl (HS2.out.below hb8))
                rw [eqL_self] at HS
                have m0 := hk8.cell 0
                have p0 := hg8.cell 0
                have p2 := hg8.cell 2
                simp only [List.getElem?_cons_zero, List.getElem?_cons_succ] at m0 p0 p2
                have HY8 := Lib.hid h8
                have HK8 := Lib.hid hk8
                have HN8 := Lib.hid hn8
                have HB8 := Lib.hid hb8
                clear HR ob h8 f8 b8 hk8 hn8 hg8 hb8 HK7 HGB HNG HB7 k0
                go_wp2_with fail
                refine HS.out.mono ?_
                rintro e w9 ⟨rfl, q9, hq9⟩
                have HY9 : Hid (YV w9 w.heap.size y m tk2 S8) := (show YV _ _ _ _ _ _ from by rw [hq9]; exact HY8.out.drewN q9)
                have HK9 : Hid (Blk w9 fbk 31 [.int .i64 1, .string nO, .int .i64 (dl : Int)]) := (show Blk _ _ _ _ from by rw [hq9]; exact HK8.out.drewN q9)
                have HB9 : Hid (Below w.heap.size w w9) := (show Below _ _ _ from by rw [hq9]; exact below_drewN HB8.out q9)
                clear HY8 HK8 HB8 HS hq9 m0 p0 p2
                go_wp2_with fail
                exact ⟨⟨i + 1, m, S8, at_, tk2, tkn + (dl : Int), by omega, by omega, rfl, rfl, by omega, by omega, htl2, HTK2, HY9, HH5, HK9, HN8, HB9⟩, by simp [intOf]; omega⟩
            · have x2 := text_ne hB
              have x2' := text_ne2 hB
              by_cases hD : dn < 2000
              · have x3 : (dn : Int) < 2000 := by omega
                have hk : r1 = 1 ∨ r1 = 2 ∨ r1 = 5 ∨ (¬ r1 = 1 ∧ ¬ r1 = 2 ∧ ¬ r1 = 5) := by omega
                rcases hk with rfl | rfl | rfl | ⟨y1, y2, y5⟩
                · have HC := Lib.hid (createV HY.out r5 rfl rfl HN5.out)
                  have HH4 : Hid (Hold data at_ (createM r5 m)) := (show Hold _ _ _ from HH.out.create)
                  clear HY HH
                  go_wp2_with fail
                  refine HC.out.mono ?_
                  rintro e w4 ⟨rfl, S4, h4, f4, b4⟩
                  have HKp : Hid (Blk w4 fbk 31 [.int .i64 1, .string nO, .int .i64 (dl : Int)]) := (show Blk _ _ _ _ from (f4.k fbk HK.out.lt HN.out).trans HK.out)
                  have HNp : Hid (¬ S4 fbk) := (show ¬ _ from fun e => HN.out (f4.n fbk HK.out.lt e))
                  have HYp := Lib.hid h4
                  have HBp := Lib.hid (HB.out.trans b4)
                  have HHp := HH4
                  generalize createM r5 m = m4 at *
                  clear HC h4 f4 b4 HK HN HB HH4 k0 k4 k5 k6
                  have kt := sl_at (HS1.out.below HBp.out) hst
                  rcases HHp.out.rename (t := t) HYp.out.g with ⟨e0, hh⟩ | ⟨e0, em⟩
                  · have HC := Lib.hid (renameV HYp.out at_ t e0 rfl HTZ.out)
                    have HH5 := Lib.hid hh
                    generalize renameM at_ t m4 = m5 at *
                    clear e0 hh HYp HHp
                    go_wp2_with fail
                    refine HC.out.mono ?_
                    rintro e w5 ⟨rfl, S5, h5, f5, b5⟩
                    have HK5 : Hid (Blk w5 fbk 31 [.int .i64 1, .string nO, .int .i64 (dl : Int)]) := (show Blk _ _ _ _ from (f5.k fbk HKp.out.lt HNp.out).trans HKp.out)
                    have HN5 : Hid (¬ S5 fbk) := (show ¬ _ from fun e => HNp.out (f5.n fbk HKp.out.lt e))
                    have HY5 := Lib.hid h5
                    have HB5 := Lib.hid (HBp.out.trans b5)
                    have kt5 := sl_at (HS1.out.below HB5.out) hst
                    clear HC h5 f5 b5 HKp HNp HBp kt
                    have HFD := Lib.hid (HY5.out.g)
                    have HF := Lib.hid (fndV HY5.out t (HH5.out.find HFD.out).1 (HH5.out.find HFD.out).2)
                    rw [HDL.out] at HF
                    go_wp2_with fail
                    refine HF.out.mono ?_
                    rintro e w6 ⟨rfl, h6, b6⟩
                    have hgb : ¬ S5 w6.heap.size := fun e => by have := (h6.s.lt _ e).2; omega
                    have hbn := Blk.new w6 31 #[.int .i64 1, .string t, .int .i64 (dl : Int)]
                    have HY7 := Lib.hid (h6.alloc (.cells #[.int .i64 1, .string t, .int .i64 (dl : Int)] 31))
                    have HB7 : Hid (Below w.heap.size w (w6.alloc (.cells #[.int .i64 1, .string t, .int .i64 (dl : Int)] 31))) := (show Below _ _ _ from (HB5.out.trans (b6.mono HB5.out.size)).alloc (HB5.out.trans (b6.mono HB5.out.size)).size _)
                    have HK7 := Lib.hid ((HK5.out.below b6 HK5.out.lt).alloc (.cells #[.int .i64 1, .string t, .int .i64 (dl : Int)] 31))
                    have HGB := Lib.hid hbn
                    have HNG := Lib.hid hgb
                    clear HF HY5 HB5 HK5 h6 b6 hgb hbn
                    go_upto_region 22 with fail
                    generalize w6.alloc (.cells #[.int .i64 1, .string t, .int .i64 (dl : Int)] 31) = w7 at *
                    generalize w6.heap.size = gb at *
                    have k0 := HK7.out.cell 0
                    simp only [List.getElem?_cons_zero] at k0
                    have rd := HH5.out.read HFD.out (by rw [HDL.out]; omega) tk
                    rw [HDL.out, HTK.out] at rd
                    have HR := Lib.hid (readV HY7.out 1 0 65536 rd.1 HDL.out rd.2.1 rd.2.2 (by omega) (by rw [HTK.out]; exact ht0) (by rw [HTK.out]; omega))
                    have HTK2 : Hid (takenM 1 (setTk 1 (tkn + (dl : Int)) tk) = tkn + (dl : Int)) := (show _ = _ from by rw [takenM_set, if_pos rfl])
                    have htl2 : (setTk 1 (tkn + (dl : Int)) tk).length ≤ i + 1 := by have := setTk_len 1 (tkn + (dl : Int)) tk; omega
                    generalize setTk 1 (tkn + (dl : Int)) tk = tk2 at *
                    clear HY7 rd
                    go_wp2_with fail
                    refine HR.out.mono ?_
                    rintro e w8 ⟨DB, cb, S8, rfl, ob, h8, f8, b8, _⟩
                    have hk8 : Blk w8 fbk 31 [.int .i64 1, .string nO, .int .i64 (dl : Int)] := (f8.k fbk HK7.out.lt HN5.out).trans HK7.out
                    have hn8 : ¬ S8 fbk := fun e => HN5.out (f8.n fbk HK7.out.lt e)
                    have hg8 : Blk w8 gb 31 [.int .i64 1, .string t, .int .i64 (dl : Int)] := (f8.k gb HGB.out.lt HNG.out).trans HGB.out
                    have hb8 := HB7.out.trans b8
                    have HS := Lib.hid (sameB_calls DB A2 dl dl cb c2 data data w8 HDL.out HDL.out (by omega) (by omega) ob.sl (HS2.out.below hb8))
                    rw [eqL_self] at HS
                    have m0 := hk8.cell 0
                    have p0 := hg8.cell 0
                    have p2 := hg8.cell 2
                    simp only [List.getElem?_cons_zero, List.getElem?_cons_succ] at m0 p0 p2
                    have HY8 := Lib.hid h8
                    have HK8 := Lib.hid hk8
                    have HN8 := Lib.hid hn8
                    have HB8 := Lib.hid hb8
                    clear HR ob h8 f8 b8 hk8 hn8 hg8 hb8 HK7 HGB HNG HB7 k0
                    go_wp2_with fail
                    refine HS.out.mono ?_
                    rintro e w9 ⟨rfl, q9, hq9⟩
                    have HY9 : Hid (YV w9 w.heap.size y m5 tk2 S8) := (show YV _ _ _ _ _ _ from by rw [hq9]; exact HY8.out.drewN q9)
                    have HK9 : Hid (Blk w9 fbk 31 [.int .i64 1, .string nO, .int .i64 (dl : Int)]) := (show Blk _ _ _ _ from by rw [hq9]; exact HK8.out.drewN q9)
                    have HB9 : Hid (Below w.heap.size w w9) := (show Below _ _ _ from by rw [hq9]; exact below_drewN HB8.out q9)
                    clear HY8 HK8 HB8 HS hq9 m0 p0 p2
                    go_wp2_with fail
                    exact ⟨⟨i + 1, m5, S8, t, tk2, tkn + (dl : Int), by omega, by omega, rfl, rfl, by omega, by omega, htl2, HTK2, HY9, HH5, HK9, HN8, HB9⟩, by simp [intOf]; omega⟩
                  · have HC := Lib.hid (renameV HYp.out at_ t rfl em HTZ.out)
                    have HH5 := Lib.hid HHp.out
                    generalize renameNo at_ t m4 = no at *
                    clear em HYp HHp
                    go_wp2_with fail
                    refine HC.out.mono ?_
                    rintro e w5 ⟨rfl, S5, h5, f5, b5⟩
                    have HK5 : Hid (Blk w5 fbk 31 [.int .i64 1, .string nO, .int .i64 (dl : Int)]) := (show Blk _ _ _ _ from (f5.k fbk HKp.out.lt HNp.out).trans HKp.out)
                    have HN5 : Hid (¬ S5 fbk) := (show ¬ _ from fun e => HNp.out (f5.n fbk HKp.out.lt e))
                    have HY5 := Lib.hid h5
                    have HB5 := Lib.hid (HBp.out.trans b5)
                    clear HC h5 f5 b5 HKp HNp HBp kt
                    have HFD := Lib.hid (HY5.out.g)
                    have HF := Lib.hid (fndV HY5.out at_ (HH5.out.find HFD.out).1 (HH5.out.find HFD.out).2)
                    rw [HDL.out] at HF
                    go_wp2_with fail
                    refine HF.out.mono ?_
                    rintro e w6 ⟨rfl, h6, b6⟩
                    have hgb : ¬ S5 w6.heap.size := fun e => by have := (h6.s.lt _ e).2; omega
                    have hbn := Blk.new w6 31 #[.int .i64 1, .string at_, .int .i64 (dl : Int)]
                    have HY7 := Lib.hid (h6.alloc (.cells #[.int .i64 1, .string at_, .int .i64 (dl : Int)] 31))
                    have HB7 : Hid (Below w.heap.size w (w6.alloc (.cells #[.int .i64 1, .string at_, .int .i64 (dl : Int)] 31))) := (show Below _ _ _ from (HB5.out.trans (b6.mono HB5.out.size)).alloc (HB5.out.trans (b6.mono HB5.out.size)).size _)
                    have HK7 := Lib.hid ((HK5.out.below b6 HK5.out.lt).alloc (.cells #[.int .i64 1, .string at_, .int .i64 (dl : Int)] 31))
                    have HGB := Lib.hid hbn
                    have HNG := Lib.hid hgb
                    clear HF HY5 HB5 HK5 h6 b6 hgb hbn
                    go_upto_region 22 with fail
                    generalize w6.alloc (.cells #[.int .i64 1, .string at_, .int .i64 (dl : Int)] 31) = w7 at *
                    generalize w6.heap.size = gb at *
                    have k0 := HK7.out.cell 0
                    simp only [List.getElem?_cons_zero] at k0
                    have rd := HH5.out.read HFD.out (by rw [HDL.out]; omega) tk
                    rw [HDL.out, HTK.out] at rd
                    have HR := Lib.hid (readV HY7.out 1 0 65536 rd.1 HDL.out rd.2.1 rd.2.2 (by omega) (by rw [HTK.out]; exact ht0) (by rw [HTK.out]; omega))
                    have HTK2 : Hid (takenM 1 (setTk 1 (tkn + (dl : Int)) tk) = tkn + (dl : Int)) := (show _ = _ from by rw [takenM_set, if_pos rfl])
                    have htl2 : (setTk 1 (tkn + (dl : Int)) tk).length ≤ i + 1 := by have := setTk_len 1 (tkn + (dl : Int)) tk; omega
                    generalize setTk 1 (tkn + (dl : Int)) tk = tk2 at *
                    clear HY7 rd
                    go_wp2_with fail
                    refine HR.out.mono ?_
                    rintro e w8 ⟨DB, cb, S8, rfl, ob, h8, f8, b8, _⟩
                    have hk8 : Blk w8 fbk 31 [.int .i64 1, .string nO, .int .i64 (dl : Int)] := (f8.k fbk HK7.out.lt HN5.out).trans HK7.out
                    have hn8 : ¬ S8 fbk := fun e => HN5.out (f8.n fbk HK7.out.lt e)
                    have hg8 : Blk w8 gb 31 [.int .i64 1, .string at_, .int .i64 (dl : Int)] := (f8.k gb HGB.out.lt HNG.out).trans HGB.out
                    have hb8 := HB7.out.trans b8
                    have HS := Lib.hid (sameB_calls DB A2 dl dl cb c2 data data w8 HDL.out HDL.out (by omega) (by omega) ob.sl (HS2.out.below hb8))
                    rw [eqL_self] at HS
                    have m0 := hk8.cell 0
                    have p0 := hg8.cell 0
                    have p2 := hg8.cell 2
                    simp only [List.getElem?_cons_zero, List.getElem?_cons_succ] at m0 p0 p2
                    have HY8 := Lib.hid h8
                    have HK8 := Lib.hid hk8
                    have HN8 := Lib.hid hn8
                    have HB8 := Lib.hid hb8
                    clear HR ob h8 f8 b8 hk8 hn8 hg8 hb8 HK7 HGB HNG HB7 k0
                    go_wp2_with fail
                    refine HS.out.mono ?_
                    rintro e w9 ⟨rfl, q9, hq9⟩
                    have HY9 : Hid (YV w9 w.heap.size y m4 tk2 S8) := (show YV _ _ _ _ _ _ from by rw [hq9]; exact HY8.out.drewN q9)
                    have HK9 : Hid (Blk w9 fbk 31 [.int .i64 1, .string nO, .int .i64 (dl : Int)]) := (show Blk _ _ _ _ from by rw [hq9]; exact HK8.out.drewN q9)
                    have HB9 : Hid (Below w.heap.size w w9) := (show Below _ _ _ from by rw [hq9]; exact below_drewN HB8.out q9)
                    clear HY8 HK8 HB8 HS hq9 m0 p0 p2
                    go_wp2_with fail
                    exact ⟨⟨i + 1, m4, S8, at_, tk2, tkn + (dl : Int), by omega, by omega, rfl, rfl, by omega, by omega, htl2, HTK2, HY9, HH5, HK9, HN8, HB9⟩, by simp [intOf]; omega⟩
                · have HC := Lib.hid (HY.out)
                  have HH4 : Hid (Hold data at_ (appendM r5 r9 m)) := (show Hold _ _ _ from HH.out.append hA r9)
                  have c0 := k4
                  have q4 : (wr.drewN 1).cell? ⟨pb, po + i * 7 + 4, none⟩ = some (.string r5) := k4
                  have q6 : (wr.drewN 1).cell? ⟨pb, po + i * 7 + 6, none⟩ = some (.slice r7 dn r8) := k6
                  have HYd := Lib.hid (HY.out.drewN 1)
                  have HC2 : Hid (Calls Try.prog 16 #[.pointer (some ⟨y, 0, none⟩), .string r5, .slice r7 dn r8] (wr.drewN 1) fun e w4 => ∃ no S4, e = .returned (.int .i64 no) ∧ Hid (YV w4 w.heap.size y (appendM r5 r9 m) tk S4) ∧ Hid (Fp wr w4 S S4) ∧ Hid (Below w.heap.size w w4)) := (show Calls _ _ _ _ _ from by
                    refine (appendV HYd.out r5 r7 dn r8 r9 rfl rfl HDN.out (HSL.out.below (below_drewN HB.out 1))).mono ?_
                    rintro e w4 ⟨rfl, S4, h4, f4, b4⟩
                    exact ⟨_, S4, rfl, h4, (show Fp _ _ _ _ from (Fp.of_below (below_drewN (Below.refl _ _) 1) S).trans f4), (show Below _ _ _ from (below_drewN HB.out 1).trans b4)⟩)
                  clear HY HH HYd
                  go_upto_region 16 with fail
                  go_region_with (go_at_call 16; refine HC2.out.mono ?_; rintro e w4 ⟨no4, S4, rfl, HYp, HF4, HBp⟩)
                  all_goals
                    have HKp : Hid (Blk w4 fbk 31 [.int .i64 1, .string nO, .int .i64 (dl : Int)]) := (show Blk _ _ _ _ from (HF4.out.k fbk HK.out.lt HN.out).trans HK.out)
                    have HNp : Hid (¬ S4 fbk) := (show ¬ _ from fun e => HN.out (HF4.out.n fbk HK.out.lt e))
                    have HHp := HH4
                    generalize appendM r5 r9 m = m4 at *
                    clear HC2 HC HF4 HK HN HB HH4 k0 k4 k5 k6 q4 q6 c0
                    go_upto_region 19 with fail
                    have kt := sl_at (HS1.out.below HBp.out) hst
                    rcases HHp.out.rename (t := t) HYp.out.g with ⟨e0, hh⟩ | ⟨e0, em⟩
                    · have HC := Lib.hid (renameV HYp.out at_ t e0 rfl HTZ.out)
                      have HH5 := Lib.hid hh
                      generalize renameM at_ t m4 = m5 at *
                      clear e0 hh HYp HHp
                      go_wp2_with fail
                      refine HC.out.mono ?_
                      rintro e w5 ⟨rfl, S5, h5, f5, b5⟩
                      have HK5 : Hid (Blk w5 fbk 31 [.int .i64 1, .string nO, .int .i64 (dl : Int)]) := (show Blk _ _ _ _ from (f5.k fbk HKp.out.lt HNp.out).trans HKp.out)
                      have HN5 : Hid (¬ S5 fbk) := (show ¬ _ from fun e => HNp.out (f5.n fbk HKp.out.lt e))
                      have HY5 := Lib.hid h5
                      have HB5 := Lib.hid (HBp.out.trans b5)
                      have kt5 := sl_at (HS1.out.below HB5.out) hst
                      clear HC h5 f5 b5 HKp HNp HBp kt
                      have HFD := Lib.hid (HY5.out.g)
                      have HF := Lib.hid (fndV HY5.out t (HH5.out.find HFD.out).1 (HH5.out.find HFD.out).2)
                      rw [HDL.out] at HF
                      go_wp2_with fail
                      refine HF.out.mono ?_
                      rintro e w6 ⟨rfl, h6, b6⟩
                      have hgb : ¬ S5 w6.heap.size := fun e => by have := (h6.s.lt _ e).2; omega
                      have hbn := Blk.new w6 31 #[.int .i64 1, .string t, .int .i64 (dl : Int)]
                      have HY7 := Lib.hid (h6.alloc (.cells #[.int .i64 1, .string t, .int .i64 (dl : Int)] 31))
                      have HB7 : Hid (Below w.heap.size w (w6.alloc (.cells #[.int .i64 1, .string t, .int .i64 (dl : Int)] 31))) := (show Below _ _ _ from (HB5.out.trans (b6.mono HB5.out.size)).alloc (HB5.out.trans (b6.mono HB5.out.size)).size _)
                      have HK7 := Lib.hid ((HK5.out.below b6 HK5.out.lt).alloc (.cells #[.int .i64 1, .string t, .int .i64 (dl : Int)] 31))
                      have HGB := Lib.hid hbn
                      have HNG := Lib.hid hgb
                      clear HF HY5 HB5 HK5 h6 b6 hgb hbn
                      go_upto_region 22 with fail
                      generalize w6.alloc (.cells #[.int .i64 1, .string t, .int .i64 (dl : Int)] 31) = w7 at *
                      generalize w6.heap.size = gb at *
                      have k0 := HK7.out.cell 0
                      simp only [List.getElem?_cons_zero] at k0
                      have rd := HH5.out.read HFD.out (by rw [HDL.out]; omega) tk
                      rw [HDL.out, HTK.out] at rd
                      have HR := Lib.hid (readV HY7.out 1 0 65536 rd.1 HDL.out rd.2.1 rd.2.2 (by omega) (by rw [HTK.out]; exact ht0) (by rw [HTK.out]; omega))
                      have HTK2 : Hid (takenM 1 (setTk 1 (tkn + (dl : Int)) tk) = tkn + (dl : Int)) := (show _ = _ from by rw [takenM_set, if_pos rfl])
                      have htl2 : (setTk 1 (tkn + (dl : Int)) tk).length ≤ i + 1 := by have := setTk_len 1 (tkn + (dl : Int)) tk; omega
                      generalize setTk 1 (tkn + (dl : Int)) tk = tk2 at *
                      clear HY7 rd
                      go_wp2_with fail
                      refine HR.out.mono ?_
                      rintro e w8 ⟨DB, cb, S8, rfl, ob, h8, f8, b8, _⟩
                      have hk8 : Blk w8 fbk 31 [.int .i64 1, .string nO, .int .i64 (dl : Int)] := (f8.k fbk HK7.out.lt HN5.out).trans HK7.out
                      have hn8 : ¬ S8 fbk := fun e => HN5.out (f8.n fbk HK7.out.lt e)
                      have hg8 : Blk w8 gb 31 [.int .i64 1, .string t, .int .i64 (dl : Int)] := (f8.k gb HGB.out.lt HNG.out).trans HGB.out
                      have hb8 := HB7.out.trans b8
                      have HS := Lib.hid (sameB_calls DB A2 dl dl cb c2 data data w8 HDL.out HDL.out (by omega) (by omega) ob.sl (HS2.out.below hb8))
                      rw [eqL_self] at HS
                      have m0 := hk8.cell 0
                      have p0 := hg8.cell 0
                      have p2 := hg8.cell 2
                      simp only [List.getElem?_cons_zero, List.getElem?_cons_succ] at m0 p0 p2
                      have HY8 := Lib.hid h8
                      have HK8 := Lib.hid hk8
                      have HN8 := Lib.hid hn8
                      have HB8 := Lib.hid hb8
                      clear HR ob h8 f8 b8 hk8 hn8 hg8 hb8 HK7 HGB HNG HB7 k0
                      go_wp2_with fail
                      refine HS.out.mono ?_
                      rintro e w9 ⟨rfl, q9, hq9⟩
                      have HY9 : Hid (YV w9 w.heap.size y m5 tk2 S8) := (show YV _ _ _ _ _ _ from by rw [hq9]; exact HY8.out.drewN q9)
                      have HK9 : Hid (Blk w9 fbk 31 [.int .i64 1, .string nO, .int .i64 (dl : Int)]) := (show Blk _ _ _ _ from by rw [hq9]; exact HK8.out.drewN q9)
                      have HB9 : Hid (Below w.heap.size w w9) := (show Below _ _ _ from by rw [hq9]; exact below_drewN HB8.out q9)
                      clear HY8 HK8 HB8 HS hq9 m0 p0 p2
                      go_wp2_with fail
                      exact ⟨⟨i + 1, m5, S8, t, tk2, tkn + (dl : Int), by omega, by omega, rfl, rfl, by omega, by omega, htl2, HTK2, HY9, HH5, HK9, HN8, HB9⟩, by simp [intOf]; omega⟩
                    · have HC := Lib.hid (renameV HYp.out at_ t rfl em HTZ.out)
                      have HH5 := Lib.hid HHp.out
                      generalize renameNo at_ t m4 = no at *
                      clear em HYp HHp
                      go_wp2_with fail
                      refine HC.out.mono ?_
                      rintro e w5 ⟨rfl, S5, h5, f5, b5⟩
                      have HK5 : Hid (Blk w5 fbk 31 [.int .i64 1, .string nO, .int .i64 (dl : Int)]) := (show Blk _ _ _ _ from (f5.k fbk HKp.out.lt HNp.out).trans HKp.out)
                      have HN5 : Hid (¬ S5 fbk) := (show ¬ _ from fun e => HNp.out (f5.n fbk HKp.out.lt e))
                      have HY5 := Lib.hid h5
                      have HB5 := Lib.hid (HBp.out.trans b5)
                      clear HC h5 f5 b5 HKp HNp HBp kt
                      have HFD := Lib.hid (HY5.out.g)
                      have HF := Lib.hid (fndV HY5.out at_ (HH5.out.find HFD.out).1 (HH5.out.find HFD.out).2)
                      rw [HDL.out] at HF
                      go_wp2_with fail
                      refine HF.out.mono ?_
                      rintro e w6 ⟨rfl, h6, b6⟩
                      have hgb : ¬ S5 w6.heap.size := fun e => by have := (h6.s.lt _ e).2; omega
                      have hbn := Blk.new w6 31 #[.int .i64 1, .string at_, .int .i64 (dl : Int)]
                      have HY7 := Lib.hid (h6.alloc (.cells #[.int .i64 1, .string at_, .int .i64 (dl : Int)] 31))
                      have HB7 : Hid (Below w.heap.size w (w6.alloc (.cells #[.int .i64 1, .string at_, .int .i64 (dl : Int)] 31))) := (show Below _ _ _ from (HB5.out.trans (b6.mono HB5.out.size)).alloc (HB5.out.trans (b6.mono HB5.out.size)).size _)
                      have HK7 := Lib.hid ((HK5.out.below b6 HK5.out.lt).alloc (.cells #[.int .i64 1, .string at_, .int .i64 (dl : Int)] 31))
                      have HGB := Lib.hid hbn
                      have HNG := Lib.hid hgb
                      clear HF HY5 HB5 HK5 h6 b6 hgb hbn
                      go_upto_region 22 with fail
                      generalize w6.alloc (.cells #[.int .i64 1, .string at_, .int .i64 (dl : Int)] 31) = w7 at *
                      generalize w6.heap.size = gb at *
                      have k0 := HK7.out.cell 0
                      simp only [List.getElem?_cons_zero] at k0
                      have rd := HH5.out.read HFD.out (by rw [HDL.out]; omega) tk
                      rw [HDL.out, HTK.out] at rd
                      have HR := Lib.hid (readV HY7.out 1 0 65536 rd.1 HDL.out rd.2.1 rd.2.2 (by omega) (by rw [HTK.out]; exact ht0) (by rw [HTK.out]; omega))
                      have HTK2 : Hid (takenM 1 (setTk 1 (tkn + (dl : Int)) tk) = tkn + (dl : Int)) := (show _ = _ from by rw [takenM_set, if_pos rfl])
                      have htl2 : (setTk 1 (tkn + (dl : Int)) tk).length ≤ i + 1 := by have := setTk_len 1 (tkn + (dl : Int)) tk; omega
                      generalize setTk 1 (tkn + (dl : Int)) tk = tk2 at *
                      clear HY7 rd
                      go_wp2_with fail
                      refine HR.out.mono ?_
                      rintro e w8 ⟨DB, cb, S8, rfl, ob, h8, f8, b8, _⟩
                      have hk8 : Blk w8 fbk 31 [.int .i64 1, .string nO, .int .i64 (dl : Int)] := (f8.k fbk HK7.out.lt HN5.out).trans HK7.out
                      have hn8 : ¬ S8 fbk := fun e => HN5.out (f8.n fbk HK7.out.lt e)
                      have hg8 : Blk w8 gb 31 [.int .i64 1, .string at_, .int .i64 (dl : Int)] := (f8.k gb HGB.out.lt HNG.out).trans HGB.out
                      have hb8 := HB7.out.trans b8
                      have HS := Lib.hid (sameB_calls DB A2 dl dl cb c2 data data w8 HDL.out HDL.out (by omega) (by omega) ob.sl (HS2.out.below hb8))
                      rw [eqL_self] at HS
                      have m0 := hk8.cell 0
                      have p0 := hg8.cell 0
                      have p2 := hg8.cell 2
                      simp only [List.getElem?_cons_zero, List.getElem?_cons_succ] at m0 p0 p2
                      have HY8 := Lib.hid h8
                      have HK8 := Lib.hid hk8
                      have HN8 := Lib.hid hn8
                      have HB8 := Lib.hid hb8
                      clear HR ob h8 f8 b8 hk8 hn8 hg8 hb8 HK7 HGB HNG HB7 k0
                      go_wp2_with fail
                      refine HS.out.mono ?_
                      rintro e w9 ⟨rfl, q9, hq9⟩
                      have HY9 : Hid (YV w9 w.heap.size y m4 tk2 S8) := (show YV _ _ _ _ _ _ from by rw [hq9]; exact HY8.out.drewN q9)
                      have HK9 : Hid (Blk w9 fbk 31 [.int .i64 1, .string nO, .int .i64 (dl : Int)]) := (show Blk _ _ _ _ from by rw [hq9]; exact HK8.out.drewN q9)
                      have HB9 : Hid (Below w.heap.size w w9) := (show Below _ _ _ from by rw [hq9]; exact below_drewN HB8.out q9)
                      clear HY8 HK8 HB8 HS hq9 m0 p0 p2
                      go_wp2_with fail
                      exact ⟨⟨i + 1, m4, S8, at_, tk2, tkn + (dl : Int), by omega, by omega, rfl, rfl, by omega, by omega, htl2, HTK2, HY9, HH5, HK9, HN8, HB9⟩, by simp [intOf]; omega⟩
                · have HC := Lib.hid (removeV HY.out r5 rfl rfl)
                  have HH4 : Hid (Hold data at_ (removeM r5 m)) := (show Hold _ _ _ from HH.out.remove hA)
                  clear HY HH
                  go_wp2_with fail
                  refine HC.out.mono ?_
                  rintro e w4 ⟨rfl, S4, h4, f4, b4⟩
                  have HKp : Hid (Blk w4 fbk 31 [.int .i64 1, .string nO, .int .i64 (dl : Int)]) := (show Blk _ _ _ _ from (f4.k fbk HK.out.lt HN.out).trans HK.out)
                  have HNp : Hid (¬ S4 fbk) := (show ¬ _ from fun e => HN.out (f4.n fbk HK.out.lt e))
                  have HYp := Lib.hid h4
                  have HBp := Lib.hid (HB.out.trans b4)
                  have HHp := HH4
                  generalize removeM r5 m = m4 at *
                  clear HC h4 f4 b4 HK HN HB HH4 k0 k4 k5 k6
                  have kt := sl_at (HS1.out.below HBp.out) hst
                  rcases HHp.out.rename (t := t) HYp.out.g with ⟨e0, hh⟩ | ⟨e0, em⟩
                  · have HC := Lib.hid (renameV HYp.out at_ t e0 rfl HTZ.out)
                    have HH5 := Lib.hid hh
                    generalize renameM at_ t m4 = m5 at *
                    clear e0 hh HYp HHp
                    go_wp2_with fail
                    refine HC.out.mono ?_
                    rintro e w5 ⟨rfl, S5, h5, f5, b5⟩
                    have HK5 : Hid (Blk w5 fbk 31 [.int .i64 1, .string nO, .int .i64 (dl : Int)]) := (show Blk _ _ _ _ from (f5.k fbk HKp.out.lt HNp.out).trans HKp.out)
                    have HN5 : Hid (¬ S5 fbk) := (show ¬ _ from fun e => HNp.out (f5.n fbk HKp.out.lt e))
                    have HY5 := Lib.hid h5
                    have HB5 := Lib.hid (HBp.out.trans b5)
                    have kt5 := sl_at (HS1.out.below HB5.out) hst
                    clear HC h5 f5 b5 HKp HNp HBp kt
                    have HFD := Lib.hid (HY5.out.g)
                    have HF := Lib.hid (fndV HY5.out t (HH5.out.find HFD.out).1 (HH5.out.find HFD.out).2)
                    rw [HDL.out] at HF
                    go_wp2_with fail
                    refine HF.out.mono ?_
                    rintro e w6 ⟨rfl, h6, b6⟩
                    have hgb : ¬ S5 w6.heap.size := fun e => by have := (h6.s.lt _ e).2; omega
                    have hbn := Blk.new w6 31 #[.int .i64 1, .string t, .int .i64 (dl : Int)]
                    have HY7 := Lib.hid (h6.alloc (.cells #[.int .i64 1, .string t, .int .i64 (dl : Int)] 31))
                    have HB7 : Hid (Below w.heap.size w (w6.alloc (.cells #[.int .i64 1, .string t, .int .i64 (dl : Int)] 31))) := (show Below _ _ _ from (HB5.out.trans (b6.mono HB5.out.size)).alloc (HB5.out.trans (b6.mono HB5.out.size)).size _)
                    have HK7 := Lib.hid ((HK5.out.below b6 HK5.out.lt).alloc (.cells #[.int .i64 1, .string t, .int .i64 (dl : Int)] 31))
                    have HGB := Lib.hid hbn
                    have HNG := Lib.hid hgb
                    clear HF HY5 HB5 HK5 h6 b6 hgb hbn
                    go_upto_region 22 with fail
                    generalize w6.alloc (.cells #[.int .i64 1, .string t, .int .i64 (dl : Int)] 31) = w7 at *
                    generalize w6.heap.size = gb at *
                    have k0 := HK7.out.cell 0
                    simp only [List.getElem?_cons_zero] at k0
                    have rd := HH5.out.read HFD.out (by rw [HDL.out]; omega) tk
                    rw [HDL.out, HTK.out] at rd
                    have HR := Lib.hid (readV HY7.out 1 0 65536 rd.1 HDL.out rd.2.1 rd.2.2 (by omega) (by rw [HTK.out]; exact ht0) (by rw [HTK.out]; omega))
                    have HTK2 : Hid (takenM 1 (setTk 1 (tkn + (dl : Int)) tk) = tkn + (dl : Int)) := (show _ = _ from by rw [takenM_set, if_pos rfl])
                    have htl2 : (setTk 1 (tkn + (dl : Int)) tk).length ≤ i + 1 := by have := setTk_len 1 (tkn + (dl : Int)) tk; omega
                    generalize setTk 1 (tkn + (dl : Int)) tk = tk2 at *
                    clear HY7 rd
                    go_wp2_with fail
                    refine HR.out.mono ?_
                    rintro e w8 ⟨DB, cb, S8, rfl, ob, h8, f8, b8, _⟩
                    have hk8 : Blk w8 fbk 31 [.int .i64 1, .string nO, .int .i64 (dl : Int)] := (f8.k fbk HK7.out.lt HN5.out).trans HK7.out
                    have hn8 : ¬ S8 fbk := fun e => HN5.out (f8.n fbk HK7.out.lt e)
                    have hg8 : Blk w8 gb 31 [.int .i64 1, .string t, .int .i64 (dl : Int)] := (f8.k gb HGB.out.lt HNG.out).trans HGB.out
                    have hb8 := HB7.out.trans b8
                    have HS := Lib.hid (sameB_calls DB A2 dl dl cb c2 data data w8 HDL.out HDL.out (by omega) (by omega) ob.sl (HS2.out.below hb8))
                    rw [eqL_self] at HS
                    have m0 := hk8.cell 0
                    have p0 := hg8.cell 0
                    have p2 := hg8.cell 2
                    simp only [List.getElem?_cons_zero, List.getElem?_cons_succ] at m0 p0 p2
                    have HY8 := Lib.hid h8
                    have HK8 := Lib.hid hk8
                    have HN8 := Lib.hid hn8
                    have HB8 := Lib.hid hb8
                    clear HR ob h8 f8 b8 hk8 hn8 hg8 hb8 HK7 HGB HNG HB7 k0
                    go_wp2_with fail
                    refine HS.out.mono ?_
                    rintro e w9 ⟨rfl, q9, hq9⟩
                    have HY9 : Hid (YV w9 w.heap.size y m5 tk2 S8) := (show YV _ _ _ _ _ _ from by rw [hq9]; exact HY8.out.drewN q9)
                    have HK9 : Hid (Blk w9 fbk 31 [.int .i64 1, .string nO, .int .i64 (dl : Int)]) := (show Blk _ _ _ _ from by rw [hq9]; exact HK8.out.drewN q9)
                    have HB9 : Hid (Below w.heap.size w w9) := (show Below _ _ _ from by rw [hq9]; exact below_drewN HB8.out q9)
                    clear HY8 HK8 HB8 HS hq9 m0 p0 p2
                    go_wp2_with fail
                    exact ⟨⟨i + 1, m5, S8, t, tk2, tkn + (dl : Int), by omega, by omega, rfl, rfl, by omega, by omega, htl2, HTK2, HY9, HH5, HK9, HN8, HB9⟩, by simp [intOf]; omega⟩
                  · have HC := Lib.hid (renameV HYp.out at_ t rfl em HTZ.out)
                    have HH5 := Lib.hid HHp.out
                    generalize renameNo at_ t m4 = no at *
                    clear em HYp HHp
                    go_wp2_with fail
                    refine HC.out.mono ?_
                    rintro e w5 ⟨rfl, S5, h5, f5, b5⟩
                    have HK5 : Hid (Blk w5 fbk 31 [.int .i64 1, .string nO, .int .i64 (dl : Int)]) := (show Blk _ _ _ _ from (f5.k fbk HKp.out.lt HNp.out).trans HKp.out)
                    have HN5 : Hid (¬ S5 fbk) := (show ¬ _ from fun e => HNp.out (f5.n fbk HKp.out.lt e))
                    have HY5 := Lib.hid h5
                    have HB5 := Lib.hid (HBp.out.trans b5)
                    clear HC h5 f5 b5 HKp HNp HBp kt
                    have HFD := Lib.hid (HY5.out.g)
                    have HF := Lib.hid (fndV HY5.out at_ (HH5.out.find HFD.out).1 (HH5.out.find HFD.out).2)
                    rw [HDL.out] at HF
                    go_wp2_with fail
                    refine HF.out.mono ?_
                    rintro e w6 ⟨rfl, h6, b6⟩
                    have hgb : ¬ S5 w6.heap.size := fun e => by have := (h6.s.lt _ e).2; omega
                    have hbn := Blk.new w6 31 #[.int .i64 1, .string at_, .int .i64 (dl : Int)]
                    have HY7 := Lib.hid (h6.alloc (.cells #[.int .i64 1, .string at_, .int .i64 (dl : Int)] 31))
                    have HB7 : Hid (Below w.heap.size w (w6.alloc (.cells #[.int .i64 1, .string at_, .int .i64 (dl : Int)] 31))) := (show Below _ _ _ from (HB5.out.trans (b6.mono HB5.out.size)).alloc (HB5.out.trans (b6.mono HB5.out.size)).size _)
                    have HK7 := Lib.hid ((HK5.out.below b6 HK5.out.lt).alloc (.cells #[.int .i64 1, .string at_, .int .i64 (dl : Int)] 31))
                    have HGB := Lib.hid hbn
                    have HNG := Lib.hid hgb
                    clear HF HY5 HB5 HK5 h6 b6 hgb hbn
                    go_upto_region 22 with fail
                    generalize w6.alloc (.cells #[.int .i64 1, .string at_, .int .i64 (dl : Int)] 31) = w7 at *
                    generalize w6.heap.size = gb at *
                    have k0 := HK7.out.cell 0
                    simp only [List.getElem?_cons_zero] at k0
                    have rd := HH5.out.read HFD.out (by rw [HDL.out]; omega) tk
                    rw [HDL.out, HTK.out] at rd
                    have HR := Lib.hid (readV HY7.out 1 0 65536 rd.1 HDL.out rd.2.1 rd.2.2 (by omega) (by rw [HTK.out]; exact ht0) (by rw [HTK.out]; omega))
                    have HTK2 : Hid (takenM 1 (setTk 1 (tkn + (dl : Int)) tk) = tkn + (dl : Int)) := (show _ = _ from by rw [takenM_set, if_pos rfl])
                    have htl2 : (setTk 1 (tkn + (dl : Int)) tk).length ≤ i + 1 := by have := setTk_len 1 (tkn + (dl : Int)) tk; omega
                    generalize setTk 1 (tkn + (dl : Int)) tk = tk2 at *
                    clear HY7 rd
                    go_wp2_with fail
                    refine HR.out.mono ?_
                    rintro e w8 ⟨DB, cb, S8, rfl, ob, h8, f8, b8, _⟩
                    have hk8 : Blk w8 fbk 31 [.int .i64 1, .string nO, .int .i64 (dl : Int)] := (f8.k fbk HK7.out.lt HN5.out).trans HK7.out
                    have hn8 : ¬ S8 fbk := fun e => HN5.out (f8.n fbk HK7.out.lt e)
                    have hg8 : Blk w8 gb 31 [.int .i64 1, .string at_, .int .i64 (dl : Int)] := (f8.k gb HGB.out.lt HNG.out).trans HGB.out
                    have hb8 := HB7.out.trans b8
                    have HS := Lib.hid (sameB_calls DB A2 dl dl cb c2 data data w8 HDL.out HDL.out (by omega) (by omega) ob.sl (HS2.out.below hb8))
                    rw [eqL_self] at HS
                    have m0 := hk8.cell 0
                    have p0 := hg8.cell 0
                    have p2 := hg8.cell 2
                    simp only [List.getElem?_cons_zero, List.getElem?_cons_succ] at m0 p0 p2
                    have HY8 := Lib.hid h8
                    have HK8 := Lib.hid hk8
                    have HN8 := Lib.hid hn8
                    have HB8 := Lib.hid hb8
                    clear HR ob h8 f8 b8 hk8 hn8 hg8 hb8 HK7 HGB HNG HB7 k0
                    go_wp2_with fail
                    refine HS.out.mono ?_
                    rintro e w9 ⟨rfl, q9, hq9⟩
                    have HY9 : Hid (YV w9 w.heap.size y m4 tk2 S8) := (show YV _ _ _ _ _ _ from by rw [hq9]; exact HY8.out.drewN q9)
                    have HK9 : Hid (Blk w9 fbk 31 [.int .i64 1, .string nO, .int .i64 (dl : Int)]) := (show Blk _ _ _ _ from by rw [hq9]; exact HK8.out.drewN q9)
                    have HB9 : Hid (Below w.heap.size w w9) := (show Below _ _ _ from by rw [hq9]; exact below_drewN HB8.out q9)
                    clear HY8 HK8 HB8 HS hq9 m0 p0 p2
                    go_wp2_with fail
                    exact ⟨⟨i + 1, m4, S8, at_, tk2, tkn + (dl : Int), by omega, by omega, rfl, rfl, by omega, by omega, htl2, HTK2, HY9, HH5, HK9, HN8, HB9⟩, by simp [intOf]; omega⟩
                · have HYp := HY
                  have HHp := HH
                  have HBp := HB
                  have HKp := HK
                  have HNp := HN
                  clear HY HH HB HK HN
                  go_upto_region 19 with fail
                  clear k0 k4 k5 k6
                  have kt := sl_at (HS1.out.below HBp.out) hst
                  rcases HHp.out.rename (t := t) HYp.out.g with ⟨e0, hh⟩ | ⟨e0, em⟩
                  · have HC := Lib.hid (renameV HYp.out at_ t e0 rfl HTZ.out)
                    have HH5 := Lib.hid hh
                    generalize renameM at_ t m = m5 at *
                    clear e0 hh HYp HHp
                    go_wp2_with fail
                    refine HC.out.mono ?_
                    rintro e w5 ⟨rfl, S5, h5, f5, b5⟩
                    have HK5 : Hid (Blk w5 fbk 31 [.int .i64 1, .string nO, .int .i64 (dl : Int)]) := (show Blk _ _ _ _ from (f5.k fbk HKp.out.lt HNp.out).trans HKp.out)
                    have HN5 : Hid (¬ S5 fbk) := (show ¬ _ from fun e => HNp.out (f5.n fbk HKp.out.lt e))
                    have HY5 := Lib.hid h5
                    have HB5 := Lib.hid (HBp.out.trans b5)
                    have kt5 := sl_at (HS1.out.below HB5.out) hst
                    clear HC h5 f5 b5 HKp HNp HBp kt
                    have HFD := Lib.hid (HY5.out.g)
                    have HF := Lib.hid (fndV HY5.out t (HH5.out.find HFD.out).1 (HH5.out.find HFD.out).2)
                    rw [HDL.out] at HF
                    go_wp2_with fail
                    refine HF.out.mono ?_
                    rintro e w6 ⟨rfl, h6, b6⟩
                    have hgb : ¬ S5 w6.heap.size := fun e => by have := (h6.s.lt _ e).2; omega
                    have hbn := Blk.new w6 31 #[.int .i64 1, .string t, .int .i64 (dl : Int)]
                    have HY7 := Lib.hid (h6.alloc (.cells #[.int .i64 1, .string t, .int .i64 (dl : Int)] 31))
                    have HB7 : Hid (Below w.heap.size w (w6.alloc (.cells #[.int .i64 1, .string t, .int .i64 (dl : Int)] 31))) := (show Below _ _ _ from (HB5.out.trans (b6.mono HB5.out.size)).alloc (HB5.out.trans (b6.mono HB5.out.size)).size _)
                    have HK7 := Lib.hid ((HK5.out.below b6 HK5.out.lt).alloc (.cells #[.int .i64 1, .string t, .int .i64 (dl : Int)] 31))
                    have HGB := Lib.hid hbn
                    have HNG := Lib.hid hgb
                    clear HF HY5 HB5 HK5 h6 b6 hgb hbn
                    go_upto_region 22 with fail
                    generalize w6.alloc (.cells #[.int .i64 1, .string t, .int .i64 (dl : Int)] 31) = w7 at *
                    generalize w6.heap.size = gb at *
                    have k0 := HK7.out.cell 0
                    simp only [List.getElem?_cons_zero] at k0
                    have rd := HH5.out.read HFD.out (by rw [HDL.out]; omega) tk
                    rw [HDL.out, HTK.out] at rd
                    have HR := Lib.hid (readV HY7.out 1 0 65536 rd.1 HDL.out rd.2.1 rd.2.2 (by omega) (by rw [HTK.out]; exact ht0) (by rw [HTK.out]; omega))
                    have HTK2 : Hid (takenM 1 (setTk 1 (tkn + (dl : Int)) tk) = tkn + (dl : Int)) := (show _ = _ from by rw [takenM_set, if_pos rfl])
                    have htl2 : (setTk 1 (tkn + (dl : Int)) tk).length ≤ i + 1 := by have := setTk_len 1 (tkn + (dl : Int)) tk; omega
                    generalize setTk 1 (tkn + (dl : Int)) tk = tk2 at *
                    clear HY7 rd
                    go_wp2_with fail
                    refine HR.out.mono ?_
                    rintro e w8 ⟨DB, cb, S8, rfl, ob, h8, f8, b8, _⟩
                    have hk8 : Blk w8 fbk 31 [.int .i64 1, .string nO, .int .i64 (dl : Int)] := (f8.k fbk HK7.out.lt HN5.out).trans HK7.out
                    have hn8 : ¬ S8 fbk := fun e => HN5.out (f8.n fbk HK7.out.lt e)
                    have hg8 : Blk w8 gb 31 [.int .i64 1, .string t, .int .i64 (dl : Int)] := (f8.k gb HGB.out.lt HNG.out).trans HGB.out
                    have hb8 := HB7.out.trans b8
                    have HS := Lib.hid (sameB_calls DB A2 dl dl cb c2 data data w8 HDL.out HDL.out (by omega) (by omega) ob.sl (HS2.out.below hb8))
                    rw [eqL_self] at HS
                    have m0 := hk8.cell 0
                    have p0 := hg8.cell 0
                    have p2 := hg8.cell 2
                    simp only [List.getElem?_cons_zero, List.getElem?_cons_succ] at m0 p0 p2
                    have HY8 := Lib.hid h8
                    have HK8 := Lib.hid hk8
                    have HN8 := Lib.hid hn8
                    have HB8 := Lib.hid hb8
                    clear HR ob h8 f8 b8 hk8 hn8 hg8 hb8 HK7 HGB HNG HB7 k0
                    go_wp2_with fail
                    refine HS.out.mono ?_
                    rintro e w9 ⟨rfl, q9, hq9⟩
                    have HY9 : Hid (YV w9 w.heap.size y m5 tk2 S8) := (show YV _ _ _ _ _ _ from by rw [hq9]; exact HY8.out.drewN q9)
                    have HK9 : Hid (Blk w9 fbk 31 [.int .i64 1, .string nO, .int .i64 (dl : Int)]) := (show Blk _ _ _ _ from by rw [hq9]; exact HK8.out.drewN q9)
                    have HB9 : Hid (Below w.heap.size w w9) := (show Below _ _ _ from by rw [hq9]; exact below_drewN HB8.out q9)
                    clear HY8 HK8 HB8 HS hq9 m0 p0 p2
                    go_wp2_with fail
                    exact ⟨⟨i + 1, m5, S8, t, tk2, tkn + (dl : Int), by omega, by omega, rfl, rfl, by omega, by omega, htl2, HTK2, HY9, HH5, HK9, HN8, HB9⟩, by simp [intOf]; omega⟩
                  · have HC := Lib.hid (renameV HYp.out at_ t rfl em HTZ.out)
                    have HH5 := Lib.hid HHp.out
                    generalize renameNo at_ t m = no at *
                    clear em HYp HHp
                    go_wp2_with fail
                    refine HC.out.mono ?_
                    rintro e w5 ⟨rfl, S5, h5, f5, b5⟩
                    have HK5 : Hid (Blk w5 fbk 31 [.int .i64 1, .string nO, .int .i64 (dl : Int)]) := (show Blk _ _ _ _ from (f5.k fbk HKp.out.lt HNp.out).trans HKp.out)
                    have HN5 : Hid (¬ S5 fbk) := (show ¬ _ from fun e => HNp.out (f5.n fbk HKp.out.lt e))
                    have HY5 := Lib.hid h5
                    have HB5 := Lib.hid (HBp.out.trans b5)
                    clear HC h5 f5 b5 HKp HNp HBp kt
                    have HFD := Lib.hid (HY5.out.g)
                    have HF := Lib.hid (fndV HY5.out at_ (HH5.out.find HFD.out).1 (HH5.out.find HFD.out).2)
                    rw [HDL.out] at HF
                    go_wp2_with fail
                    refine HF.out.mono ?_
                    rintro e w6 ⟨rfl, h6, b6⟩
                    have hgb : ¬ S5 w6.heap.size := fun e => by have := (h6.s.lt _ e).2; omega
                    have hbn := Blk.new w6 31 #[.int .i64 1, .string at_, .int .i64 (dl : Int)]
                    have HY7 := Lib.hid (h6.alloc (.cells #[.int .i64 1, .string at_, .int .i64 (dl : Int)] 31))
                    have HB7 : Hid (Below w.heap.size w (w6.alloc (.cells #[.int .i64 1, .string at_, .int .i64 (dl : Int)] 31))) := (show Below _ _ _ from (HB5.out.trans (b6.mono HB5.out.size)).alloc (HB5.out.trans (b6.mono HB5.out.size)).size _)
                    have HK7 := Lib.hid ((HK5.out.below b6 HK5.out.lt).alloc (.cells #[.int .i64 1, .string at_, .int .i64 (dl : Int)] 31))
                    have HGB := Lib.hid hbn
                    have HNG := Lib.hid hgb
                    clear HF HY5 HB5 HK5 h6 b6 hgb hbn
                    go_upto_region 22 with fail
                    generalize w6.alloc (.cells #[.int .i64 1, .string at_, .int .i64 (dl : Int)] 31) = w7 at *
                    generalize w6.heap.size = gb at *
                    have k0 := HK7.out.cell 0
                    simp only [List.getElem?_cons_zero] at k0
                    have rd := HH5.out.read HFD.out (by rw [HDL.out]; omega) tk
                    rw [HDL.out, HTK.out] at rd
                    have HR := Lib.hid (readV HY7.out 1 0 65536 rd.1 HDL.out rd.2.1 rd.2.2 (by omega) (by rw [HTK.out]; exact ht0) (by rw [HTK.out]; omega))
                    have HTK2 : Hid (takenM 1 (setTk 1 (tkn + (dl : Int)) tk) = tkn + (dl : Int)) := (show _ = _ from by rw [takenM_set, if_pos rfl])
                    have htl2 : (setTk 1 (tkn + (dl : Int)) tk).length ≤ i + 1 := by have := setTk_len 1 (tkn + (dl : Int)) tk; omega
                    generalize setTk 1 (tkn + (dl : Int)) tk = tk2 at *
                    clear HY7 rd
                    go_wp2_with fail
                    refine HR.out.mono ?_
                    rintro e w8 ⟨DB, cb, S8, rfl, ob, h8, f8, b8, _⟩
                    have hk8 : Blk w8 fbk 31 [.int .i64 1, .string nO, .int .i64 (dl : Int)] := (f8.k fbk HK7.out.lt HN5.out).trans HK7.out
                    have hn8 : ¬ S8 fbk := fun e => HN5.out (f8.n fbk HK7.out.lt e)
                    have hg8 : Blk w8 gb 31 [.int .i64 1, .string at_, .int .i64 (dl : Int)] := (f8.k gb HGB.out.lt HNG.out).trans HGB.out
                    have hb8 := HB7.out.trans b8
                    have HS := Lib.hid (sameB_calls DB A2 dl dl cb c2 data data w8 HDL.out HDL.out (by omega) (by omega) ob.sl (HS2.out.below hb8))
                    rw [eqL_self] at HS
                    have m0 := hk8.cell 0
                    have p0 := hg8.cell 0
                    have p2 := hg8.cell 2
                    simp only [List.getElem?_cons_zero, List.getElem?_cons_succ] at m0 p0 p2
                    have HY8 := Lib.hid h8
                    have HK8 := Lib.hid hk8
                    have HN8 := Lib.hid hn8
                    have HB8 := Lib.hid hb8
                    clear HR ob h8 f8 b8 hk8 hn8 hg8 hb8 HK7 HGB HNG HB7 k0
                    go_wp2_with fail
                    refine HS.out.mono ?_
                    rintro e w9 ⟨rfl, q9, hq9⟩
                    have HY9 : Hid (YV w9 w.heap.size y m tk2 S8) := (show YV _ _ _ _ _ _ from by rw [hq9]; exact HY8.out.drewN q9)
                    have HK9 : Hid (Blk w9 fbk 31 [.int .i64 1, .string nO, .int .i64 (dl : Int)]) := (show Blk _ _ _ _ from by rw [hq9]; exact HK8.out.drewN q9)
                    have HB9 : Hid (Below w.heap.size w w9) := (show Below _ _ _ from by rw [hq9]; exact below_drewN HB8.out q9)
                    clear HY8 HK8 HB8 HS hq9 m0 p0 p2
                    go_wp2_with fail
                    exact ⟨⟨i + 1, m, S8, at_, tk2, tkn + (dl : Int), by omega, by omega, rfl, rfl, by omega, by omega, htl2, HTK2, HY9, HH5, HK9, HN8, HB9⟩, by simp [intOf]; omega⟩
              · have x3 : ¬ (dn : Int) < 2000 := by omega
                have HYp := HY
                have HHp := HH
                have HBp := HB
                have HKp := HK
                have HNp := HN
                clear HY HH HB HK HN
                go_upto_region 19 with fail
                clear k0 k4 k5 k6
                have kt := sl_at (HS1.out.below HBp.out) hst
                rcases HHp.out.rename (t := t) HYp.out.g with ⟨e0, hh⟩ | ⟨e0, em⟩
                · have HC := Lib.hid (renameV HYp.out at_ t e0 rfl HTZ.out)
                  have HH5 := Lib.hid hh
                  generalize renameM at_ t m = m5 at *
                  clear e0 hh HYp HHp
                  go_wp2_with fail
                  refine HC.out.mono ?_
                  rintro e w5 ⟨rfl, S5, h5, f5, b5⟩
                  have HK5 : Hid (Blk w5 fbk 31 [.int .i64 1, .string nO, .int .i64 (dl : Int)]) := (show Blk _ _ _ _ from (f5.k fbk HKp.out.lt HNp.out).trans HKp.out)
                  have HN5 : Hid (¬ S5 fbk) := (show ¬ _ from fun e => HNp.out (f5.n fbk HKp.out.lt e))
                  have HY5 := Lib.hid h5
                  have HB5 := Lib.hid (HBp.out.trans b5)
                  have kt5 := sl_at (HS1.out.below HB5.out) hst
                  clear HC h5 f5 b5 HKp HNp HBp kt
                  have HFD := Lib.hid (HY5.out.g)
                  have HF := Lib.hid (fndV HY5.out t (HH5.out.find HFD.out).1 (HH5.out.find HFD.out).2)
                  rw [HDL.out] at HF
                  go_wp2_with fail
                  refine HF.out.mono ?_
                  rintro e w6 ⟨rfl, h6, b6⟩
                  have hgb : ¬ S5 w6.heap.size := fun e => by have := (h6.s.lt _ e).2; omega
                  have hbn := Blk.new w6 31 #[.int .i64 1, .string t, .int .i64 (dl : Int)]
                  have HY7 := Lib.hid (h6.alloc (.cells #[.int .i64 1, .string t, .int .i64 (dl : Int)] 31))
                  have HB7 : Hid (Below w.heap.size w (w6.alloc (.cells #[.int .i64 1, .string t, .int .i64 (dl : Int)] 31))) := (show Below _ _ _ from (HB5.out.trans (b6.mono HB5.out.size)).alloc (HB5.out.trans (b6.mono HB5.out.size)).size _)
                  have HK7 := Lib.hid ((HK5.out.below b6 HK5.out.lt).alloc (.cells #[.int .i64 1, .string t, .int .i64 (dl : Int)] 31))
                  have HGB := Lib.hid hbn
                  have HNG := Lib.hid hgb
                  clear HF HY5 HB5 HK5 h6 b6 hgb hbn
                  go_upto_region 22 with fail
                  generalize w6.alloc (.cells #[.int .i64 1, .string t, .int .i64 (dl : Int)] 31) = w7 at *
                  generalize w6.heap.size = gb at *
                  have k0 := HK7.out.cell 0
                  simp only [List.getElem?_cons_zero] at k0
                  have rd := HH5.out.read HFD.out (by rw [HDL.out]; omega) tk
                  rw [HDL.out, HTK.out] at rd
                  have HR := Lib.hid (readV HY7.out 1 0 65536 rd.1 HDL.out rd.2.1 rd.2.2 (by omega) (by rw [HTK.out]; exact ht0) (by rw [HTK.out]; omega))
                  have HTK2 : Hid (takenM 1 (setTk 1 (tkn + (dl : Int)) tk) = tkn + (dl : Int)) := (show _ = _ from by rw [takenM_set, if_pos rfl])
                  have htl2 : (setTk 1 (tkn + (dl : Int)) tk).length ≤ i + 1 := by have := setTk_len 1 (tkn + (dl : Int)) tk; omega
                  generalize setTk 1 (tkn + (dl : Int)) tk = tk2 at *
                  clear HY7 rd
                  go_wp2_with fail
                  refine HR.out.mono ?_
                  rintro e w8 ⟨DB, cb, S8, rfl, ob, h8, f8, b8, _⟩
                  have hk8 : Blk w8 fbk 31 [.int .i64 1, .string nO, .int .i64 (dl : Int)] := (f8.k fbk HK7.out.lt HN5.out).trans HK7.out
                  have hn8 : ¬ S8 fbk := fun e => HN5.out (f8.n fbk HK7.out.lt e)
                  have hg8 : Blk w8 gb 31 [.int .i64 1, .string t, .int .i64 (dl : Int)] := (f8.k gb HGB.out.lt HNG.out).trans HGB.out
                  have hb8 := HB7.out.trans b8
                  have HS := Lib.hid (sameB_calls DB A2 dl dl cb c2 data data w8 HDL.out HDL.out (by omega) (by omega) ob.sl (HS2.out.below hb8))
                  rw [eqL_self] at HS
                  have m0 := hk8.cell 0
                  have p0 := hg8.cell 0
                  have p2 := hg8.cell 2
                  simp only [List.getElem?_cons_zero, List.getElem?_cons_succ] at m0 p0 p2
                  have HY8 := Lib.hid h8
                  have HK8 := Lib.hid hk8
                  have HN8 := Lib.hid hn8
                  have HB8 := Lib.hid hb8
                  clear HR ob h8 f8 b8 hk8 hn8 hg8 hb8 HK7 HGB HNG HB7 k0
                  go_wp2_with fail
                  refine HS.out.mono ?_
                  rintro e w9 ⟨rfl, q9, hq9⟩
                  have HY9 : Hid (YV w9 w.heap.size y m5 tk2 S8) := (show YV _ _ _ _ _ _ from by rw [hq9]; exact HY8.out.drewN q9)
                  have HK9 : Hid (Blk w9 fbk 31 [.int .i64 1, .string nO, .int .i64 (dl : Int)]) := (show Blk _ _ _ _ from by rw [hq9]; exact HK8.out.drewN q9)
                  have HB9 : Hid (Below w.heap.size w w9) := (show Below _ _ _ from by rw [hq9]; exact below_drewN HB8.out q9)
                  clear HY8 HK8 HB8 HS hq9 m0 p0 p2
                  go_wp2_with fail
                  exact ⟨⟨i + 1, m5, S8, t, tk2, tkn + (dl : Int), by omega, by omega, rfl, rfl, by omega, by omega, htl2, HTK2, HY9, HH5, HK9, HN8, HB9⟩, by simp [intOf]; omega⟩
                · have HC := Lib.hid (renameV HYp.out at_ t rfl em HTZ.out)
                  have HH5 := Lib.hid HHp.out
                  generalize renameNo at_ t m = no at *
                  clear em HYp HHp
                  go_wp2_with fail
                  refine HC.out.mono ?_
                  rintro e w5 ⟨rfl, S5, h5, f5, b5⟩
                  have HK5 : Hid (Blk w5 fbk 31 [.int .i64 1, .string nO, .int .i64 (dl : Int)]) := (show Blk _ _ _ _ from (f5.k fbk HKp.out.lt HNp.out).trans HKp.out)
                  have HN5 : Hid (¬ S5 fbk) := (show ¬ _ from fun e => HNp.out (f5.n fbk HKp.out.lt e))
                  have HY5 := Lib.hid h5
                  have HB5 := Lib.hid (HBp.out.trans b5)
                  clear HC h5 f5 b5 HKp HNp HBp kt
                  have HFD := Lib.hid (HY5.out.g)
                  have HF := Lib.hid (fndV HY5.out at_ (HH5.out.find HFD.out).1 (HH5.out.find HFD.out).2)
                  rw [HDL.out] at HF
                  go_wp2_with fail
                  refine HF.out.mono ?_
                  rintro e w6 ⟨rfl, h6, b6⟩
                  have hgb : ¬ S5 w6.heap.size := fun e => by have := (h6.s.lt _ e).2; omega
                  have hbn := Blk.new w6 31 #[.int .i64 1, .string at_, .int .i64 (dl : Int)]
                  have HY7 := Lib.hid (h6.alloc (.cells #[.int .i64 1, .string at_, .int .i64 (dl : Int)] 31))
                  have HB7 : Hid (Below w.heap.size w (w6.alloc (.cells #[.int .i64 1, .string at_, .int .i64 (dl : Int)] 31))) := (show Below _ _ _ from (HB5.out.trans (b6.mono HB5.out.size)).alloc (HB5.out.trans (b6.mono HB5.out.size)).size _)
                  have HK7 := Lib.hid ((HK5.out.below b6 HK5.out.lt).alloc (.cells #[.int .i64 1, .string at_, .int .i64 (dl : Int)] 31))
                  have HGB := Lib.hid hbn
                  have HNG := Lib.hid hgb
                  clear HF HY5 HB5 HK5 h6 b6 hgb hbn
                  go_upto_region 22 with fail
                  generalize w6.alloc (.cells #[.int .i64 1, .string at_, .int .i64 (dl : Int)] 31) = w7 at *
                  generalize w6.heap.size = gb at *
                  have k0 := HK7.out.cell 0
                  simp only [List.getElem?_cons_zero] at k0
                  have rd := HH5.out.read HFD.out (by rw [HDL.out]; omega) tk
                  rw [HDL.out, HTK.out] at rd
                  have HR := Lib.hid (readV HY7.out 1 0 65536 rd.1 HDL.out rd.2.1 rd.2.2 (by omega) (by rw [HTK.out]; exact ht0) (by rw [HTK.out]; omega))
                  have HTK2 : Hid (takenM 1 (setTk 1 (tkn + (dl : Int)) tk) = tkn + (dl : Int)) := (show _ = _ from by rw [takenM_set, if_pos rfl])
                  have htl2 : (setTk 1 (tkn + (dl : Int)) tk).length ≤ i + 1 := by have := setTk_len 1 (tkn + (dl : Int)) tk; omega
                  generalize setTk 1 (tkn + (dl : Int)) tk = tk2 at *
                  clear HY7 rd
                  go_wp2_with fail
                  refine HR.out.mono ?_
                  rintro e w8 ⟨DB, cb, S8, rfl, ob, h8, f8, b8, _⟩
                  have hk8 : Blk w8 fbk 31 [.int .i64 1, .string nO, .int .i64 (dl : Int)] := (f8.k fbk HK7.out.lt HN5.out).trans HK7.out
                  have hn8 : ¬ S8 fbk := fun e => HN5.out (f8.n fbk HK7.out.lt e)
                  have hg8 : Blk w8 gb 31 [.int .i64 1, .string at_, .int .i64 (dl : Int)] := (f8.k gb HGB.out.lt HNG.out).trans HGB.out
                  have hb8 := HB7.out.trans b8
                  have HS := Lib.hid (sameB_calls DB A2 dl dl cb c2 data data w8 HDL.out HDL.out (by omega) (by omega) ob.sl (HS2.out.below hb8))
                  rw [eqL_self] at HS
                  have m0 := hk8.cell 0
                  have p0 := hg8.cell 0
                  have p2 := hg8.cell 2
                  simp only [List.getElem?_cons_zero, List.getElem?_cons_succ] at m0 p0 p2
                  have HY8 := Lib.hid h8
                  have HK8 := Lib.hid hk8
                  have HN8 := Lib.hid hn8
                  have HB8 := Lib.hid hb8
                  clear HR ob h8 f8 b8 hk8 hn8 hg8 hb8 HK7 HGB HNG HB7 k0
                  go_wp2_with fail
                  refine HS.out.mono ?_
                  rintro e w9 ⟨rfl, q9, hq9⟩
                  have HY9 : Hid (YV w9 w.heap.size y m tk2 S8) := (show YV _ _ _ _ _ _ from by rw [hq9]; exact HY8.out.drewN q9)
                  have HK9 : Hid (Blk w9 fbk 31 [.int .i64 1, .string nO, .int .i64 (dl : Int)]) := (show Blk _ _ _ _ from by rw [hq9]; exact HK8.out.drewN q9)
                  have HB9 : Hid (Below w.heap.size w w9) := (show Below _ _ _ from by rw [hq9]; exact below_drewN HB8.out q9)
                  clear HY8 HK8 HB8 HS hq9 m0 p0 p2
                  go_wp2_with fail
                  exact ⟨⟨i + 1, m, S8, at_, tk2, tkn + (dl : Int), by omega, by omega, rfl, rfl, by omega, by omega, htl2, HTK2, HY9, HH5, HK9, HN8, HB9⟩, by simp [intOf]; omega⟩
        · have i4 : ¬ (i : Int) < (n0 : Int) := by omega
          have HYp := HY
          have HHp := HH
          have HBp := HB
          have HKp := HK
          have HNp := HN
          clear HY HH HB HK HN
          go_upto_region 19 with fail
          have kt := sl_at (HS1.out.below HBp.out) hst
          rcases HHp.out.rename (t := t) HYp.out.g with ⟨e0, hh⟩ | ⟨e0, em⟩
          · have HC := Lib.hid (renameV HYp.out at_ t e0 rfl HTZ.out)
            have HH5 := Lib.hid hh
            generalize renameM at_ t m = m5 at *
            clear e0 hh HYp HHp
            go_wp2_with fail
            refine HC.out.mono ?_
            rintro e w5 ⟨rfl, S5, h5, f5, b5⟩
            have HK5 : Hid (Blk w5 fbk 31 [.int .i64 1, .string nO, .int .i64 (dl : Int)]) := (show Blk _ _ _ _ from (f5.k fbk HKp.out.lt HNp.out).trans HKp.out)
            have HN5 : Hid (¬ S5 fbk) := (show ¬ _ from fun e => HNp.out (f5.n fbk HKp.out.lt e))
            have HY5 := Lib.hid h5
            have HB5 := Lib.hid (HBp.out.trans b5)
            have kt5 := sl_at (HS1.out.below HB5.out) hst
            clear HC h5 f5 b5 HKp HNp HBp kt
            have HFD := Lib.hid (HY5.out.g)
            have HF := Lib.hid (fndV HY5.out t (HH5.out.find HFD.out).1 (HH5.out.find HFD.out).2)
            rw [HDL.out] at HF
            go_wp2_with fail
            refine HF.out.mono ?_
            rintro e w6 ⟨rfl, h6, b6⟩
            have hgb : ¬ S5 w6.heap.size := fun e => by have := (h6.s.lt _ e).2; omega
            have hbn := Blk.new w6 31 #[.int .i64 1, .string t, .int .i64 (dl : Int)]
            have HY7 := Lib.hid (h6.alloc (.cells #[.int .i64 1, .string t, .int .i64 (dl : Int)] 31))
            have HB7 : Hid (Below w.heap.size w (w6.alloc (.cells #[.int .i64 1, .string t, .int .i64 (dl : Int)] 31))) := (show Below _ _ _ from (HB5.out.trans (b6.mono HB5.out.size)).alloc (HB5.out.trans (b6.mono HB5.out.size)).size _)
            have HK7 := Lib.hid ((HK5.out.below b6 HK5.out.lt).alloc (.cells #[.int .i64 1, .string t, .int .i64 (dl : Int)] 31))
            have HGB := Lib.hid hbn
            have HNG := Lib.hid hgb
            clear HF HY5 HB5 HK5 h6 b6 hgb hbn
            go_upto_region 22 with fail
            generalize w6.alloc (.cells #[.int .i64 1, .string t, .int .i64 (dl : Int)] 31) = w7 at *
            generalize w6.heap.size = gb at *
            have k0 := HK7.out.cell 0
            simp only [List.getElem?_cons_zero] at k0
            have rd := HH5.out.read HFD.out (by rw [HDL.out]; omega) tk
            rw [HDL.out, HTK.out] at rd
            have HR := Lib.hid (readV HY7.out 1 0 65536 rd.1 HDL.out rd.2.1 rd.2.2 (by omega) (by rw [HTK.out]; exact ht0) (by rw [HTK.out]; omega))
            have HTK2 : Hid (takenM 1 (setTk 1 (tkn + (dl : Int)) tk) = tkn + (dl : Int)) := (show _ = _ from by rw [takenM_set, if_pos rfl])
            have htl2 : (setTk 1 (tkn + (dl : Int)) tk).length ≤ i + 1 := by have := setTk_len 1 (tkn + (dl : Int)) tk; omega
            generalize setTk 1 (tkn + (dl : Int)) tk = tk2 at *
            clear HY7 rd
            go_wp2_with fail
            refine HR.out.mono ?_
            rintro e w8 ⟨DB, cb, S8, rfl, ob, h8, f8, b8, _⟩
            have hk8 : Blk w8 fbk 31 [.int .i64 1, .string nO, .int .i64 (dl : Int)] := (f8.k fbk HK7.out.lt HN5.out).trans HK7.out
            have hn8 : ¬ S8 fbk := fun e => HN5.out (f8.n fbk HK7.out.lt e)
            have hg8 : Blk w8 gb 31 [.int .i64 1, .string t, .int .i64 (dl : Int)] := (f8.k gb HGB.out.lt HNG.out).trans HGB.out
            have hb8 := HB7.out.trans b8
            have HS := Lib.hid (sameB_calls DB A2 dl dl cb c2 data data w8 HDL.out HDL.out (by omega) (by omega) ob.sl (HS2.out.below hb8))
            rw [eqL_self] at HS
            have m0 := hk8.cell 0
            have p0 := hg8.cell 0
            have p2 := hg8.cell 2
            simp only [List.getElem?_cons_zero, List.getElem?_cons_succ] at m0 p0 p2
            have HY8 := Lib.hid h8
            have HK8 := Lib.hid hk8
            have HN8 := Lib.hid hn8
            have HB8 := Lib.hid hb8
            clear HR ob h8 f8 b8 hk8 hn8 hg8 hb8 HK7 HGB HNG HB7 k0
            go_wp2_with fail
            refine HS.out.mono ?_
            rintro e w9 ⟨rfl, q9, hq9⟩
            have HY9 : Hid (YV w9 w.heap.size y m5 tk2 S8) := (show YV _ _ _ _ _ _ from by rw [hq9]; exact HY8.out.drewN q9)
            have HK9 : Hid (Blk w9 fbk 31 [.int .i64 1, .string nO, .int .i64 (dl : Int)]) := (show Blk _ _ _ _ from by rw [hq9]; exact HK8.out.drewN q9)
            have HB9 : Hid (Below w.heap.size w w9) := (show Below _ _ _ from by rw [hq9]; exact below_drewN HB8.out q9)
            clear HY8 HK8 HB8 HS hq9 m0 p0 p2
            go_wp2_with fail
            exact ⟨⟨i + 1, m5, S8, t, tk2, tkn + (dl : Int), by omega, by omega, rfl, rfl, by omega, by omega, htl2, HTK2, HY9, HH5, HK9, HN8, HB9⟩, by simp [intOf]; omega⟩
          · have HC := Lib.hid (renameV HYp.out at_ t rfl em HTZ.out)
            have HH5 := Lib.hid HHp.out
            generalize renameNo at_ t m = no at *
            clear em HYp HHp
            go_wp2_with fail
            refine HC.out.mono ?_
            rintro e w5 ⟨rfl, S5, h5, f5, b5⟩
            have HK5 : Hid (Blk w5 fbk 31 [.int .i64 1, .string nO, .int .i64 (dl : Int)]) := (show Blk _ _ _ _ from (f5.k fbk HKp.out.lt HNp.out).trans HKp.out)
            have HN5 : Hid (¬ S5 fbk) := (show ¬ _ from fun e => HNp.out (f5.n fbk HKp.out.lt e))
            have HY5 := Lib.hid h5
            have HB5 := Lib.hid (HBp.out.trans b5)
            clear HC h5 f5 b5 HKp HNp HBp kt
            have HFD := Lib.hid (HY5.out.g)
            have HF := Lib.hid (fndV HY5.out at_ (HH5.out.find HFD.out).1 (HH5.out.find HFD.out).2)
            rw [HDL.out] at HF
            go_wp2_with fail
            refine HF.out.mono ?_
            rintro e w6 ⟨rfl, h6, b6⟩
            have hgb : ¬ S5 w6.heap.size := fun e => by have := (h6.s.lt _ e).2; omega
            have hbn := Blk.new w6 31 #[.int .i64 1, .string at_, .int .i64 (dl : Int)]
            have HY7 := Lib.hid (h6.alloc (.cells #[.int .i64 1, .string at_, .int .i64 (dl : Int)] 31))
            have HB7 : Hid (Below w.heap.size w (w6.alloc (.cells #[.int .i64 1, .string at_, .int .i64 (dl : Int)] 31))) := (show Below _ _ _ from (HB5.out.trans (b6.mono HB5.out.size)).alloc (HB5.out.trans (b6.mono HB5.out.size)).size _)
            have HK7 := Lib.hid ((HK5.out.below b6 HK5.out.lt).alloc (.cells #[.int .i64 1, .string at_, .int .i64 (dl : Int)] 31))
            have HGB := Lib.hid hbn
            have HNG := Lib.hid hgb
            clear HF HY5 HB5 HK5 h6 b6 hgb hbn
            go_upto_region 22 with fail
            generalize w6.alloc (.cells #[.int .i64 1, .string at_, .int .i64 (dl : Int)] 31) = w7 at *
            generalize w6.heap.size = gb at *
            have k0 := HK7.out.cell 0
            simp only [List.getElem?_cons_zero] at k0
            have rd := HH5.out.read HFD.out (by rw [HDL.out]; omega) tk
            rw [HDL.out, HTK.out] at rd
            have HR := Lib.hid (readV HY7.out 1 0 65536 rd.1 HDL.out rd.2.1 rd.2.2 (by omega) (by rw [HTK.out]; exact ht0) (by rw [HTK.out]; omega))
            have HTK2 : Hid (takenM 1 (setTk 1 (tkn + (dl : Int)) tk) = tkn + (dl : Int)) := (show _ = _ from by rw [takenM_set, if_pos rfl])
            have htl2 : (setTk 1 (tkn + (dl : Int)) tk).length ≤ i + 1 := by have := setTk_len 1 (tkn + (dl : Int)) tk; omega
            generalize setTk 1 (tkn + (dl : Int)) tk = tk2 at *
            clear HY7 rd
            go_wp2_with fail
            refine HR.out.mono ?_
            rintro e w8 ⟨DB, cb, S8, rfl, ob, h8, f8, b8, _⟩
            have hk8 : Blk w8 fbk 31 [.int .i64 1, .string nO, .int .i64 (dl : Int)] := (f8.k fbk HK7.out.lt HN5.out).trans HK7.out
            have hn8 : ¬ S8 fbk := fun e => HN5.out (f8.n fbk HK7.out.lt e)
            have hg8 : Blk w8 gb 31 [.int .i64 1, .string at_, .int .i64 (dl : Int)] := (f8.k gb HGB.out.lt HNG.out).trans HGB.out
            have hb8 := HB7.out.trans b8
            have HS := Lib.hid (sameB_calls DB A2 dl dl cb c2 data data w8 HDL.out HDL.out (by omega) (by omega) ob.sl (HS2.out.below hb8))
            rw [eqL_self] at HS
            have m0 := hk8.cell 0
            have p0 := hg8.cell 0
            have p2 := hg8.cell 2
            simp only [List.getElem?_cons_zero, List.getElem?_cons_succ] at m0 p0 p2
            have HY8 := Lib.hid h8
            have HK8 := Lib.hid hk8
            have HN8 := Lib.hid hn8
            have HB8 := Lib.hid hb8
            clear HR ob h8 f8 b8 hk8 hn8 hg8 hb8 HK7 HGB HNG HB7 k0
            go_wp2_with fail
            refine HS.out.mono ?_
            rintro e w9 ⟨rfl, q9, hq9⟩
            have HY9 : Hid (YV w9 w.heap.size y m tk2 S8) := (show YV _ _ _ _ _ _ from by rw [hq9]; exact HY8.out.drewN q9)
            have HK9 : Hid (Blk w9 fbk 31 [.int .i64 1, .string nO, .int .i64 (dl : Int)]) := (show Blk _ _ _ _ from by rw [hq9]; exact HK8.out.drewN q9)
            have HB9 : Hid (Below w.heap.size w w9) := (show Below _ _ _ from by rw [hq9]; exact below_drewN HB8.out q9)
            clear HY8 HK8 HB8 HS hq9 m0 p0 p2
            go_wp2_with fail
            exact ⟨⟨i + 1, m, S8, at_, tk2, tkn + (dl : Int), by omega, by omega, rfl, rfl, by omega, by omega, htl2, HTK2, HY9, HH5, HK9, HN8, HB9⟩, by simp [intOf]; omega⟩
      · have hout : (¬ (i : Int) < (n1 : Int)) ∨ ((i : Int) < (n1 : Int) ∧ ¬ (i : Int) < 20) := by omega
        clear HY HH HK HN
        rcases hout with h1 | ⟨h1, h2⟩
        all_goals
          go_wp2_with fail
          refine (yardRuns_calls _).mono ?_
          rintro e w6 ⟨rfl, b6⟩
          have HB6 := Lib.hid (HB.out.trans (b6.mono HB.out.size))
          clear b6 HB
          go_wp2_with fail
          go_ret
          exact ⟨rfl, HB6.out⟩
end Go.Proofs.Ytbmgeomndfodpaa
