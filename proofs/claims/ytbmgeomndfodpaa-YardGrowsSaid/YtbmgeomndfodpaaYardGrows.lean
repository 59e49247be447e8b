/-
  YardGrows: what is appended in parts is read in any parts.
-/
import Derived.Test.YtbmgeomndfodpaaYardFull
import Derived.Test.YtbmgeomndfodpaaRoomyB
import Derived.Test.YtbmgeomndfodpaaIntactB
import Derived.Test.YtbmgeomndfodpaaSameB
import Derived.Deep.CutBlock
namespace Go.Proofs.Ytbmgeomndfodpaa
open Go.RowKit Go.Mem Go.Proofs

/-- one block alone has turned -/
structure Oth (fb : Nat) (a b : World) : Prop where
  sz : b.heap.size = a.heap.size
  k : ∀ g, g ≠ fb → b.heap[g]? = a.heap[g]?
theorem Oth.refl (fb : Nat) (a : World) : Oth fb a a := ⟨rfl, fun _ _ => rfl⟩
theorem Oth.set {fb : Nat} {a b : World} (h : Oth fb a b) (q : Nat) (v : Value) : Oth fb a (b.setCell ⟨fb, q, none⟩ v) := ⟨by simp [World.setCell]; exact h.sz, fun g hg => (Below.heap_setCell b ⟨fb, q, none⟩ v g hg).trans (h.k g hg)⟩
theorem Oth.drewN {fb : Nat} {a b : World} (h : Oth fb a b) (q : Nat) : Oth fb a (b.drewN q) := ⟨h.sz, h.k⟩
/-- the turned byte -/
theorem comp_set (ys : List UInt8) (q : Nat) (hq : q < ys.length) : (ys.set q (UInt8.ofNat (255 - ys[q].toNat))).map B8 = (ys.map B8).set q (.int .u8 (255 - (ys[q].toNat : Int))) := by
  have hy := ys[q].toNat_lt
  rw [List.map_set]
  congr 1
  unfold B8
  congr 1
  rw [UInt8.toNat_ofNat']
  omega
theorem rowB_bytes (bs : List UInt8) (m : UInt8) : rowB bs m 80 = (bs ++ List.replicate 80 m).map B8 := by
  simp [rowB]
theorem rowB_sl {w : World} {g : Nat} {bs : List UInt8} {m : UInt8} (h : Blk w g 5 (rowB bs m 80)) : Sl w (some ⟨g, 0, none⟩) (bs.map B8) := by
  intro j u hu
  refine ⟨g, 0, rfl, ?_⟩
  have hj := (List.getElem?_eq_some_iff.1 hu).1
  rw [Nat.zero_add, h.cell, rowB_bytes, List.map_append, List.getElem?_append_left hj]; exact hu
theorem own_shape {w : World} {B : Nat} {t : TypeId} {D : Option Addr} {n cap : Nat} {pre : List Value} (h : OwnB w B t 1 D n cap pre) (hn : 0 < n) : ∃ g, D = some ⟨g, 0, none⟩ ∧ B ≤ g ∧ ∀ (k : Nat) u, pre[k]? = some u → w.cell? ⟨g, k, none⟩ = some u ∧ w.frozen? ⟨g, k, none⟩ = false := by
  rcases h.2.2 with ⟨_, h0, _⟩ | ⟨g, sp, hd, hg, hb, _⟩
  · omega
  · refine ⟨g, hd, hg, fun k u hu => ⟨?_, hb.frozen k⟩⟩
    rw [hb.cell, List.getElem?_append_left (List.getElem?_eq_some_iff.1 hu).1]; exact hu
theorem own_set {w : World} {B : Nat} {t : TypeId} {g n cap : Nat} {pre : List Value} (h : OwnB w B t 1 (some ⟨g, 0, none⟩) n cap pre) (k : Nat) (hk : k < pre.length) (v : Value) : OwnB (w.setCell ⟨g, k, none⟩ v) B t 1 (some ⟨g, 0, none⟩) n cap (pre.set k v) := by
  obtain ⟨h1, h2, h3⟩ := h
  refine ⟨by rw [List.length_set]; exact h1, h2, ?_⟩
  rcases h3 with ⟨h3, _⟩ | ⟨g', sp, hg', hB, hb, hc⟩
  · cases h3
  · injection hg' with hg'; injection hg' with hg'; subst hg'
    refine .inr ⟨g, sp, rfl, hB, ?_, by first | exact hc | (rw [List.length_set]; exact hc)⟩
    have := hb.set_ k v
    rw [List.set_append_left _ _ hk] at this
    exact this
theorem grow_read (data : List UInt8) (at_ n : Nat) (tk : List (Int × Int)) : readNo 1 (at_ : Int) (n : Int) [⟨1, nF, data⟩] = 0 ∧ readB 1 (at_ : Int) (n : Int) [⟨1, nF, data⟩] = (data.drop at_).take n ∧ readT 1 (at_ : Int) (n : Int) [⟨1, nF, data⟩] tk = setTk 1 (takenM 1 tk + ((data.drop at_).take n).length) tk := by
  have hw : whoM 1 [⟨1, nF, data⟩] = some (⟨1, nF, data⟩ : MF) := by simp [whoM]
  have h := read_ok (a := (at_ : Int)) (n := (n : Int)) (tk := tk) hw (by omega)
  rw [Int.toNat_natCast, Int.toNat_natCast] at h
  exact h
set_option maxRecDepth 100000 in
set_option maxHeartbeats 6400000 in
theorem yardGrows_calls (A0 A1 : Option Addr) (n0 n1 c0 c1 : Nat) (ps : List Part) (zs : List Int) (w : World) (hl0 : ps.length = n0) (hs0 : Sl w A0 (ps.map Part.cell)) (hp0 : ∀ p ∈ ps, p.bs.length ≤ 9223372036854775807 ∧ p.bs.length ≤ p.cap ∧ Sl w p.A (p.bs.map B8)) (hl1 : zs.length = n1) (hs1 : Sl w A1 (zs.map I64)) (hz1 : ∀ z ∈ zs, -9223372036854775808 ≤ z ∧ z ≤ 9223372036854775807) :
    Calls Try.prog 8 #[.slice A0 n0 c0, .slice A1 n1 c1] w fun e w' => e = .returned (.bool true) ∧ Below w.heap.size w w' := by
  have HS0 := Lib.hid hs0
  have HP0 := Lib.hid hp0
  have HS1 := Lib.hid hs1
  have HZ1 := Lib.hid hz1
  have HL0 := Lib.hid hl0
  have HL1 := Lib.hid hl1
  clear hs0 hp0 hs1 hz1 hl0 hl1
  obtain ⟨i0, hi, hz0, hz1, hz2⟩ := info_parts infoU8
  go_enter Try.func8, Try.ntmps8
  go_wp2_with fail
  refine (newV w).mono ?_
  rintro e w1 ⟨y, S1, rfl, h1, b1⟩
  go_wp2_with fail
  refine (createV h1 nF oneNew.1 oneNew.2 (by decide)).mono ?_
  rintro e w2 ⟨rfl, S2, h2, _, b2⟩
  have B2 := Lib.hid (b1.trans b2)
  have H2 := Lib.hid h2
  clear h1 b1 b2 h2
  go_upto_block 0 with fail
  go_cut [6, 7, 8, 9, 10] from 27 to 78 (fun s6 s7 s8 s9 s10 wx => ∃ (data : List UInt8) (D : Option Addr) (c : Nat) (S : Nat → Prop), s6 = .slice D data.length c ∧ data.length ≤ 4500 ∧ Hid (YV wx w.heap.size y [⟨1, nF, data⟩] [] S) ∧ Hid (OwnB wx w.heap.size 5 1 D data.length c (data.map B8)) ∧ Hid (∀ g, D = some ⟨g, 0, none⟩ → ¬ S g) ∧ Hid (Below w.heap.size w wx))
  case first =>
    go_wp2_with fail
    go_loopw [6, 7] (fun s6 s7 wr => ∃ (j : Nat) (data : List UInt8) (DD : Option Addr) (c dl : Nat) (S : Nat → Prop), j ≤ 15 ∧ j ≤ n0 ∧ s7 = .int .i64 j ∧ s6 = .slice DD dl c ∧ dl ≤ 300 * j ∧ Hid (data.length = dl) ∧ Hid (YV wr w.heap.size y [⟨1, nF, data⟩] [] S) ∧ Hid (OwnB wr w.heap.size 5 1 DD dl c (data.map B8)) ∧ Hid (∀ g, DD = some ⟨g, 0, none⟩ → ¬ S g) ∧ Hid (Below w.heap.size w wr)) (fun _ s7 _ => 15 - (intOf s7).toNat)
    case atStart => exact ⟨0, [], none, 0, 0, S2, by decide, Nat.zero_le _, rfl, rfl, by decide, (show _ = _ from rfl), H2, OwnB.nil _ _ _ _, (show ∀ g, _ from fun g hg => by cases hg), B2⟩
    case round =>
      obtain ⟨j, data, DD, c, dl, S, hj15, hjn, rfl, rfl, hdl, HDL, HY, HO, HD, HBW⟩ := hrel
      clear H2 B2
      by_cases hlt : j < 15 ∧ j < n0
      · obtain ⟨hlt1, hlt2⟩ := hlt
        have i1 : (0 : Int) ≤ (j : Int) := by omega
        have i2 : (j : Int) < 15 := by omega
        have i3 : (j : Int) < (n0 : Int) := by omega
        have hw1 : IntKind.i64.wrap ((j : Int) + 1) = (j : Int) + 1 := by rw [IntKind.wrap_i64]; omega
        have hpj : j < ps.length := by rw [HL0.out]; exact hlt2
        have HFB : Hid (w.heap.size ≤ wr.heap.size) := (show _ ≤ _ from HBW.out.size)
        obtain ⟨pb, po, e0, hc⟩ := (HS0.out.below HBW.out).at_ (k := j) (by simpa using hpj)
        rw [List.getElem_map] at hc
        obtain ⟨g1, g2, g3⟩ := HP0.out ps[j] (List.getElem_mem hpj)
        generalize ps[j] = p at hc g1 g2 g3
        obtain ⟨PA, pc, bs⟩ := p
        simp only [Part.cell] at hc g1 g2 g3
        subst e0
        by_cases hlong : 300 < bs.length
        · have hl1 : (300 : Int) < (bs.length : Int) := by omega
          have hl2 : (300 : Int) ≤ (pc : Int) := by omega
          obtain ⟨bs', hbs'⟩ : ∃ bs', bs' = bs.take 300 := ⟨_, rfl⟩
          have HBL : Hid (bs'.length = 300) := (show _ = _ from by rw [hbs', List.length_take]; omega)
          have HSP : Hid (Sl w PA (bs'.map B8)) := (show Sl _ _ _ from by rw [hbs', List.map_take]; exact g3.take 300)
          clear hbs' g3 g1 hlong
          generalize bs.length = bl at *
          have hnS : ¬ S wr.heap.size := fun e => by have := (HY.out.s.lt _ e).2; omega
          have hdf : ∀ g, DD = some ⟨g, 0, none⟩ → g ≠ wr.heap.size := fun g hg => by have := (own_ltN HO.out hg).1; omega
          have e1 := oneApp data bs'
          rw [HDL.out, HBL.out, if_neg (by omega), if_neg (by omega)] at e1
          have hsw := HBW.out.size
          go_wp2_with fail
          refine (roomyB_calls PA 300 pc bs' 17 wr HBL.out (by omega) (HSP.out.below HBW.out)).mono ?_
          rintro e w4 ⟨rfl, b4, hb4⟩
          have h4 := HY.out.below b4
          have ho4 := HO.out.below b4
          have hbw4 := HBW.out.trans (b4.mono hsw)
          have HHD := Lib.hid HD.out
          clear b4 HY HO HBW hsw hc HD
          generalize wr.heap.size = fb at *
          have HA := Lib.hid (appendV h4 nF (some ⟨fb, 0, none⟩) 300 (300 + 80) bs' e1.1 e1.2 HBL.out (rowB_sl hb4))
          have HB4 := Lib.hid hb4
          have HO4 := Lib.hid ho4
          have HW4 := Lib.hid hbw4
          have HNS := Lib.hid hnS
          have HDF := Lib.hid hdf
          clear h4 hb4 ho4 hbw4 e1 hnS hdf
          go_wp2_with fail
          refine HA.out.mono ?_
          rintro e w5 ⟨rfl, S5, h5, f5, b5⟩
          have hb5 : Blk w5 fb 5 (rowB bs' 17 80) := (f5.k fb HB4.out.lt HNS.out).trans HB4.out
          have hn5 : ¬ S5 fb := fun e => HNS.out (f5.n fb HB4.out.lt e)
          have ho5 := own_keepN HO4.out (fun g hg => f5.k g (own_ltN HO4.out hg).1 (HHD.out g hg))
          have hd5 : ∀ g, DD = some ⟨g, 0, none⟩ → ¬ S5 g := fun g hg e => HHD.out g hg (f5.n g (own_ltN HO4.out hg).1 e)
          have hbw5 := HW4.out.trans b5
          have HI := Lib.hid (intactB_calls (some ⟨fb, 0, none⟩) PA 300 (300 + 80) (300 + 80) pc bs' 17 w5 HBL.out rfl (by omega) (slOfBlk hb5) (HSP.out.below hbw5) (Nat.le_refl _))
          have HY5 := Lib.hid h5
          have HB5 := Lib.hid hb5
          have HO5 := Lib.hid ho5
          have HW5 := Lib.hid hbw5
          have HN5 := Lib.hid hn5
          have HD5 := Lib.hid hd5
          clear HA HB4 HO4 HW4 HNS HHD h5 f5 b5 hb5 hn5 ho5 hd5 hbw5
          go_wp2_with fail
          refine HI.out.mono ?_
          rintro e w6 ⟨rfl, q6, hq6⟩
          have HY6 : Hid (YV w6 w.heap.size y [⟨1, nF, data ++ bs'⟩] [] S5) := (show YV _ _ _ _ _ _ from by rw [hq6]; exact HY5.out.drewN q6)
          have HB6 : Hid (Blk w6 fb 5 ((bs' ++ List.replicate 80 17).map B8)) := (show Blk _ _ _ _ from by rw [hq6, ← rowB_bytes]; exact HB5.out.drewN q6)
          have HO6 : Hid (OwnB w6 w.heap.size 5 1 DD dl c (data.map B8)) := (show OwnB _ _ _ _ _ _ _ _ from by rw [hq6]; exact HO5.out.drewN q6)
          have HW6 : Hid (Below w.heap.size w w6) := (show Below _ _ _ from by rw [hq6]; exact below_drewN HW5.out q6)
          have HBL6 : Hid ((bs' ++ List.replicate 80 17).length = 300 + 80) := (show _ = _ from by rw [List.length_append, List.length_replicate, HBL.out])
          clear HY5 HB5 HO5 HW5 hq6 HI
          go_wp2_with fail
          go_loopw [10] (fun s10 wq => ∃ (q : Nat) (ys : List UInt8), q ≤ 300 + 80 ∧ s10 = .int .i64 q ∧ Hid (ys.length = 300 + 80) ∧ Hid (Blk wq fb 5 (ys.map B8)) ∧ Hid (Oth fb w6 wq) ∧ Hid (Below w.heap.size w wq)) (fun s _ => 300 + 80 - (intOf s).toNat)
          case atStart => exact ⟨0, bs' ++ List.replicate 80 17, Nat.zero_le _, rfl, HBL6, HB6, (show Oth _ _ _ from Oth.refl _ _), HW6⟩
          case round =>
            obtain ⟨q, ys, hq, rfl, HYL, HYB, HOT, HWQ⟩ := hrel
            clear HBL6 HB6
            by_cases hql : q < 300 + 80
            · have hqy : q < ys.length := by rw [HYL.out]; exact hql
              have k0 : (0 : Int) ≤ (q : Int) := by omega
              have k1 : (q : Int) < ((300 + 80 : Nat) : Int) := by omega
              have hwq1 : IntKind.i64.wrap ((q : Int) + 1) = (q : Int) + 1 := by rw [IntKind.wrap_i64]; omega
              have hcq := HYB.out.cell q
              have hfq := HYB.out.frozen q
              rw [List.getElem?_map, List.getElem?_eq_getElem hqy] at hcq
              have HV := comp_set ys q hqy
              have HYB2 := Lib.hid (HYB.out.set_ q (.int .u8 (255 - (ys[q].toNat : Int))))
              rw [← HV] at HYB2
              have HYL2 : Hid ((ys.set q (UInt8.ofNat (255 - ys[q].toNat))).length = 300 + 80) := (show _ = _ from by rw [List.length_set]; exact HYL.out)
              have HOT2 : Hid (Oth fb w6 (wr.setCell ⟨fb, q, none⟩ (.int .u8 (255 - (ys[q].toNat : Int))))) := (show Oth _ _ _ from HOT.out.set q _)
              have hfbw : w.heap.size ≤ fb := HFB.out
              have HWQ2 : Hid (Below w.heap.size w (wr.setCell ⟨fb, q, none⟩ (.int .u8 (255 - (ys[q].toNat : Int))))) := (show Below _ _ _ from HWQ.out.setCell (p := ⟨fb, q, none⟩) hfbw _)
              have hy := ys[q].toNat_lt
              generalize ys.set q (UInt8.ofNat (255 - ys[q].toNat)) = ys2 at HYB2 HYL2
              generalize hyq : ys[q].toNat = yy at hcq hy HYB2 HOT2 HWQ2
              unfold B8 at hcq
              simp only [Option.map_some, hyq] at hcq
              clear HYB HYL HOT HWQ HV hyq
              have hwy : IntKind.u8.wrap (255 - (yy : Int)) = 255 - (yy : Int) := IntWalk.u8_in _ (by omega)
              go_wp2_with fail
              exact ⟨⟨q + 1, ys2, by omega, rfl, HYL2, HYB2, HOT2, HWQ2⟩, by simp [intOf]; omega⟩
            · have k1 : ¬ (q : Int) < ((300 + 80 : Nat) : Int) := by omega
              have hsz := HOT.out.sz
              have HYQ : Hid (YV wr w.heap.size y [⟨1, nF, data ++ bs'⟩] [] S5) := (show YV _ _ _ _ _ _ from HY6.out.keep (by omega) (fun g _ hS => HOT.out.k g (fun e => HN5.out (e ▸ hS))))
              have HOQ : Hid (OwnB wr w.heap.size 5 1 DD dl c (data.map B8)) := (show OwnB _ _ _ _ _ _ _ _ from own_keepN HO6.out (fun g hg => HOT.out.k g (HDF.out g hg)))
              have HSR : Hid (Src Try.prog 1 27 (.slice PA 300 pc) 300 (bs'.map B8) wr) := (show Src _ _ _ _ _ _ _ from srcSl Try.underlying27 (by rw [List.length_map]; exact HBL.out) (HSP.out.below HWQ.out) (bytes_one _))
              have hwq := HWQ.out
              have hwqs := hwq.size
              clear HYB HYL HOT HWQ HY6 HO6 HW6 hsz
              go_wp2_with (at_builtin; refine wpList_append_ownK (o := ⟨some 77, _, _, _, _, _⟩) rfl (.tmp 75) (.tmp 76) 27 27 rfl 5 i0 (.int .u8 0) 1 1 Try.underlying27 hi hz0 hz1 hz2 rfl w.heap.size DD dl c (data.map B8) rfl HOQ.out (.slice PA 300 pc) rfl 300 (bs'.map B8) HSR.out (by omega) (by omega) w hwq hwqs ?_)
              intro w8 D8 c8 HO8 HK8 hb8 hs8
              have HY8 : Hid (YV w8 w.heap.size y [⟨1, nF, data ++ bs'⟩] [] S5) := (show YV _ _ _ _ _ _ from HYQ.out.keep hs8 (fun g hg hS => HK8.out.1 g hg (fun e => HD5.out g e hS)))
              have HD8 : Hid (∀ g, D8 = some ⟨g, 0, none⟩ → ¬ S5 g) := (show ∀ g, _ from fun g hg hS => by
                rcases HK8.out.2 with h | h
                · exact HD5.out g (h ▸ hg) hS
                · rw [h] at hg; injection hg with hg; injection hg with hg
                  have := (HYQ.out.s.lt g hS).2; omega)
              have HO9 : Hid (OwnB w8 w.heap.size 5 1 D8 (dl + 300) c8 ((data ++ bs').map B8)) := (show OwnB _ _ _ _ _ _ _ _ from by rw [List.map_append]; exact HO8.out)
              have HL8 : Hid ((data ++ bs').length = dl + 300) := (show _ = _ from by rw [List.length_append, HDL.out, HBL.out])
              have HB8 := Lib.hid hb8
              clear HO8 HK8 hb8 hs8 HYQ HOQ HSR HD5 HN5 hwq hwqs
              go_wp2_with fail
              exact ⟨⟨j + 1, data ++ bs', D8, c8, dl + 300, S5, by omega, by omega, rfl, rfl, by omega, HL8, HY8, HO9, HD8, HB8⟩, by simp [intOf]; omega⟩
        · obtain ⟨bs', hbs'⟩ : ∃ bs', bs' = bs := ⟨_, rfl⟩
          subst hbs'
          have HSP := Lib.hid g3
          obtain ⟨mm, hmm⟩ : ∃ mm, bs'.length = mm := ⟨_, rfl⟩
          have HBL : Hid (bs'.length = mm) := (show _ = _ from hmm)
          rw [hmm] at hc g1 g2 hlong
          have hmm3 : mm ≤ 300 := by omega
          have hl1 : ¬ (300 : Int) < (mm : Int) := by omega
          clear g3 hmm
          have hnS : ¬ S wr.heap.size := fun e => by have := (HY.out.s.lt _ e).2; omega
          have hdf : ∀ g, DD = some ⟨g, 0, none⟩ → g ≠ wr.heap.size := fun g hg => by have := (own_ltN HO.out hg).1; omega
          have e1 := oneApp data bs'
          rw [HDL.out, HBL.out, if_neg (by omega), if_neg (by omega)] at e1
          have hsw := HBW.out.size
          go_wp2_with fail
          refine (roomyB_calls PA mm pc bs' 17 wr HBL.out (by omega) (HSP.out.below HBW.out)).mono ?_
          rintro e w4 ⟨rfl, b4, hb4⟩
          have h4 := HY.out.below b4
          have ho4 := HO.out.below b4
          have hbw4 := HBW.out.trans (b4.mono hsw)
          have HHD := Lib.hid HD.out
          clear b4 HY HO HBW hsw hc HD
          generalize wr.heap.size = fb at *
          have HA := Lib.hid (appendV h4 nF (some ⟨fb, 0, none⟩) mm (mm + 80) bs' e1.1 e1.2 HBL.out (rowB_sl hb4))
          have HB4 := Lib.hid hb4
          have HO4 := Lib.hid ho4
          have HW4 := Lib.hid hbw4
          have HNS := Lib.hid hnS
          have HDF := Lib.hid hdf
          clear h4 hb4 ho4 hbw4 e1 hnS hdf
          go_wp2_with fail
          refine HA.out.mono ?_
          rintro e w5 ⟨rfl, S5, h5, f5, b5⟩
          have hb5 : Blk w5 fb 5 (rowB bs' 17 80) := (f5.k fb HB4.out.lt HNS.out).trans HB4.out
          have hn5 : ¬ S5 fb := fun e => HNS.out (f5.n fb HB4.out.lt e)
          have ho5 := own_keepN HO4.out (fun g hg => f5.k g (own_ltN HO4.out hg).1 (HHD.out g hg))
          have hd5 : ∀ g, DD = some ⟨g, 0, none⟩ → ¬ S5 g := fun g hg e => HHD.out g hg (f5.n g (own_ltN HO4.out hg).1 e)
          have hbw5 := HW4.out.trans b5
          have HI := Lib.hid (intactB_calls (some ⟨fb, 0, none⟩) PA mm (mm + 80) (mm + 80) pc bs' 17 w5 HBL.out rfl (by omega) (slOfBlk hb5) (HSP.out.below hbw5) (Nat.le_refl _))
          have HY5 := Lib.hid h5
          have HB5 := Lib.hid hb5
          have HO5 := Lib.hid ho5
          have HW5 := Lib.hid hbw5
          have HN5 := Lib.hid hn5
          have HD5 := Lib.hid hd5
          clear HA HB4 HO4 HW4 HNS HHD h5 f5 b5 hb5 hn5 ho5 hd5 hbw5
          go_wp2_with fail
          refine HI.out.mono ?_
          rintro e w6 ⟨rfl, q6, hq6⟩
          have HY6 : Hid (YV w6 w.heap.size y [⟨1, nF, data ++ bs'⟩] [] S5) := (show YV _ _ _ _ _ _ from by rw [hq6]; exact HY5.out.drewN q6)
          have HB6 : Hid (Blk w6 fb 5 ((bs' ++ List.replicate 80 17).map B8)) := (show Blk _ _ _ _ from by rw [hq6, ← rowB_bytes]; exact HB5.out.drewN q6)
          have HO6 : Hid (OwnB w6 w.heap.size 5 1 DD dl c (data.map B8)) := (show OwnB _ _ _ _ _ _ _ _ from by rw [hq6]; exact HO5.out.drewN q6)
          have HW6 : Hid (Below w.heap.size w w6) := (show Below _ _ _ from by rw [hq6]; exact below_drewN HW5.out q6)
          have HBL6 : Hid ((bs' ++ List.replicate 80 17).length = mm + 80) := (show _ = _ from by rw [List.length_append, List.length_replicate, HBL.out])
          clear HY5 HB5 HO5 HW5 hq6 HI
          go_wp2_with fail
          go_loopw [10] (fun s10 wq => ∃ (q : Nat) (ys : List UInt8), q ≤ mm + 80 ∧ s10 = .int .i64 q ∧ Hid (ys.length = mm + 80) ∧ Hid (Blk wq fb 5 (ys.map B8)) ∧ Hid (Oth fb w6 wq) ∧ Hid (Below w.heap.size w wq)) (fun s _ => mm + 80 - (intOf s).toNat)
          case atStart => exact ⟨0, bs' ++ List.replicate 80 17, Nat.zero_le _, rfl, HBL6, HB6, (show Oth _ _ _ from Oth.refl _ _), HW6⟩
          case round =>
            obtain ⟨q, ys, hq, rfl, HYL, HYB, HOT, HWQ⟩ := hrel
            clear HBL6 HB6
            by_cases hql : q < mm + 80
            · have hqy : q < ys.length := by rw [HYL.out]; exact hql
              have k0 : (0 : Int) ≤ (q : Int) := by omega
              have k1 : (q : Int) < ((mm + 80 : Nat) : Int) := by omega
              have hwq1 : IntKind.i64.wrap ((q : Int) + 1) = (q : Int) + 1 := by rw [IntKind.wrap_i64]; omega
              have hcq := HYB.out.cell q
              have hfq := HYB.out.frozen q
              rw [List.getElem?_map, List.getElem?_eq_getElem hqy] at hcq
              have HV := comp_set ys q hqy
              have HYB2 := Lib.hid (HYB.out.set_ q (.int .u8 (255 - (ys[q].toNat : Int))))
              rw [← HV] at HYB2
              have HYL2 : Hid ((ys.set q (UInt8.ofNat (255 - ys[q].toNat))).length = mm + 80) := (show _ = _ from by rw [List.length_set]; exact HYL.out)
              have HOT2 : Hid (Oth fb w6 (wr.setCell ⟨fb, q, none⟩ (.int .u8 (255 - (ys[q].toNat : Int))))) := (show Oth _ _ _ from HOT.out.set q _)
              have hfbw : w.heap.size ≤ fb := HFB.out
              have HWQ2 : Hid (Below w.heap.size w (wr.setCell ⟨fb, q, none⟩ (.int .u8 (255 - (ys[q].toNat : Int))))) := (show Below _ _ _ from HWQ.out.setCell (p := ⟨fb, q, none⟩) hfbw _)
              have hy := ys[q].toNat_lt
              generalize ys.set q (UInt8.ofNat (255 - ys[q].toNat)) = ys2 at HYB2 HYL2
              generalize hyq : ys[q].toNat = yy at hcq hy HYB2 HOT2 HWQ2
              unfold B8 at hcq
              simp only [Option.map_some, hyq] at hcq
              clear HYB HYL HOT HWQ HV hyq
              have hwy : IntKind.u8.wrap (255 - (yy : Int)) = 255 - (yy : Int) := IntWalk.u8_in _ (by omega)
              go_wp2_with fail
              exact ⟨⟨q + 1, ys2, by omega, rfl, HYL2, HYB2, HOT2, HWQ2⟩, by simp [intOf]; omega⟩
            · have k1 : ¬ (q : Int) < ((mm + 80 : Nat) : Int) := by omega
              have hsz := HOT.out.sz
              have HYQ : Hid (YV wr w.heap.size y [⟨1, nF, data ++ bs'⟩] [] S5) := (show YV _ _ _ _ _ _ from HY6.out.keep (by omega) (fun g _ hS => HOT.out.k g (fun e => HN5.out (e ▸ hS))))
              have HOQ : Hid (OwnB wr w.heap.size 5 1 DD dl c (data.map B8)) := (show OwnB _ _ _ _ _ _ _ _ from own_keepN HO6.out (fun g hg => HOT.out.k g (HDF.out g hg)))
              have HSR : Hid (Src Try.prog 1 27 (.slice PA mm pc) mm (bs'.map B8) wr) := (show Src _ _ _ _ _ _ _ from srcSl Try.underlying27 (by rw [List.length_map]; exact HBL.out) (HSP.out.below HWQ.out) (bytes_one _))
              have hwq := HWQ.out
              have hwqs := hwq.size
              clear HYB HYL HOT HWQ HY6 HO6 HW6 hsz
              go_wp2_with (at_builtin; refine wpList_append_ownK (o := ⟨some 77, _, _, _, _, _⟩) rfl (.tmp 75) (.tmp 76) 27 27 rfl 5 i0 (.int .u8 0) 1 1 Try.underlying27 hi hz0 hz1 hz2 rfl w.heap.size DD dl c (data.map B8) rfl HOQ.out (.slice PA mm pc) rfl mm (bs'.map B8) HSR.out (by omega) (by omega) w hwq hwqs ?_)
              intro w8 D8 c8 HO8 HK8 hb8 hs8
              have HY8 : Hid (YV w8 w.heap.size y [⟨1, nF, data ++ bs'⟩] [] S5) := (show YV _ _ _ _ _ _ from HYQ.out.keep hs8 (fun g hg hS => HK8.out.1 g hg (fun e => HD5.out g e hS)))
              have HD8 : Hid (∀ g, D8 = some ⟨g, 0, none⟩ → ¬ S5 g) := (show ∀ g, _ from fun g hg hS => by
                rcases HK8.out.2 with h | h
                · exact HD5.out g (h ▸ hg) hS
                · rw [h] at hg; injection hg with hg; injection hg with hg
                  have := (HYQ.out.s.lt g hS).2; omega)
              have HO9 : Hid (OwnB w8 w.heap.size 5 1 D8 (dl + mm) c8 ((data ++ bs').map B8)) := (show OwnB _ _ _ _ _ _ _ _ from by rw [List.map_append]; exact HO8.out)
              have HL8 : Hid ((data ++ bs').length = dl + mm) := (show _ = _ from by rw [List.length_append, HDL.out, HBL.out])
              have HB8 := Lib.hid hb8
              clear HO8 HK8 hb8 hs8 HYQ HOQ HSR HD5 HN5 hwq hwqs
              go_wp2_with fail
              exact ⟨⟨j + 1, data ++ bs', D8, c8, dl + mm, S5, by omega, by omega, rfl, rfl, by omega, HL8, HY8, HO9, HD8, HB8⟩, by simp [intOf]; omega⟩
      · have hout : (¬ (j : Int) < (n0 : Int)) ∨ ((j : Int) < (n0 : Int) ∧ ¬ (j : Int) < 15) := by omega
        have hdl2 : dl ≤ 4500 := by omega
        have HDL' := HDL.out
        rcases hout with h1 | ⟨h1, h2⟩
        all_goals
          go_wp2_with fail
          go_meet
          exact ⟨data, DD, c, S, by rw [HDL.out], by rw [HDL.out]; exact hdl2, HY, by rw [HDL.out]; exact HO, HD, HBW⟩
  case rest =>
    clear H2 B2
    obtain ⟨w3, hnm⟩ : ∃ W, W = wc := ⟨_, rfl⟩
    subst hnm
    obtain ⟨data, DD, c, S, rfl, hdl, HY, HO, HD, HBW⟩ := hcut
    obtain ⟨dl, hdle⟩ : ∃ dl, data.length = dl := ⟨_, rfl⟩
    have HDL := Lib.hid hdle
    rw [hdle] at hdl HO ⊢
    have hcap := HO.out.le
    clear hdle
    go_wp2_with fail
    go_loopw [11, 12, 13] (fun s11 s12 s13 wr => ∃ (j at_ : Nat) (tkn : Int) (tk : List (Int × Int)) (S2 : Nat → Prop), j ≤ 30 ∧ j ≤ n1 ∧ s13 = .int .i64 j ∧ s11 = .int .i64 (at_ : Int) ∧ s12 = .int .i64 tkn ∧ at_ ≤ dl ∧ 0 ≤ tkn ∧ tkn ≤ 200 * (j : Int) ∧ tk.length ≤ j ∧ Hid (takenM 1 tk = tkn) ∧ Hid (YV wr w.heap.size y [⟨1, nF, data⟩] tk S2) ∧ Hid (OwnB wr w.heap.size 5 1 DD dl c (data.map B8)) ∧ Hid (∀ g, DD = some ⟨g, 0, none⟩ → ¬ S2 g) ∧ Hid (Below w.heap.size w wr)) (fun _ _ s13 _ => 30 - (intOf s13).toNat)
    case atStart => exact ⟨0, 0, 0, [], S, by decide, Nat.zero_le _, rfl, rfl, rfl, Nat.zero_le _, by decide, by decide, Nat.zero_le _, (show _ = _ from rfl), HY, HO, HD, HBW⟩
    case round =>
      clear HY HO HD HBW
      obtain ⟨j, at_, tkn, tk, S2, hj30, hjn, rfl, rfl, rfl, hat, ht0, ht1, htl, HTK, HY, HO, HD, HBW⟩ := hrel
      by_cases hlt : j < 30 ∧ j < n1
      · obtain ⟨hlt1, hlt2⟩ := hlt
        have i1 : (0 : Int) ≤ (j : Int) := by omega
        have i2 : (j : Int) < 30 := by omega
        have i3 : (j : Int) < (n1 : Int) := by omega
        have hw1 : IntKind.i64.wrap ((j : Int) + 1) = (j : Int) + 1 := by rw [IntKind.wrap_i64]; omega
        have hpj : j < zs.length := by rw [HL1.out]; exact hlt2
        obtain ⟨pb, po, e0, hc⟩ := (HS1.out.below HBW.out).at_ (k := j) (by simpa using hpj)
        rw [List.getElem_map] at hc
        have hzr := HZ1.out zs[j] (List.getElem_mem hpj)
        generalize zs[j] = z at hc hzr
        unfold I64 at hc
        subst e0
        have HWI := Lib.hid (within_calls z 0 200 wr (by decide) (by decide) (by decide) hzr)
        have hz1' := within_ge z 0 200 (by decide)
        have hz2' := within_le z 0 200 (by decide)
        generalize within z 0 200 = zz at *
        obtain ⟨nn, rfl⟩ : ∃ nn : Nat, zz = (nn : Int) := ⟨zz.toNat, by omega⟩
        have hnn : nn ≤ 200 := by omega
        obtain ⟨tt, hto⟩ : ∃ tt, tt = min (at_ + nn) dl := ⟨_, rfl⟩
        obtain ⟨r, hr⟩ : ∃ r, r = tt - at_ := ⟨_, rfl⟩
        obtain ⟨BS, hBS⟩ : ∃ BS, BS = (data.drop at_).take nn := ⟨_, rfl⟩
        have hBl : BS.length = r := by rw [hBS, List.length_take, List.length_drop, HDL.out]; omega
        obtain ⟨gr1, gr2, gr3⟩ := grow_read data at_ nn tk
        rw [← hBS] at gr2 gr3
        rw [hBl, HTK.out] at gr3
        have HR := Lib.hid (readV HY.out 1 (at_ : Int) (nn : Int) gr2 hBl gr1 gr3 (by omega) (by rw [HTK.out]; exact ht0) (by rw [HTK.out]; omega))
        obtain ⟨A', hA'⟩ : ∃ A', (if c = at_ then DD else Option.map (fun x => x.add at_) DD) = A' := ⟨_, rfl⟩
        have HSL : Hid (∀ W, OwnB W w.heap.size 5 1 DD dl c (data.map B8) → Sl W A' (BS.map B8)) := (show ∀ W, _ from fun W hW k u hu => by
          have hk : k < r := by have := (List.getElem?_eq_some_iff.1 hu).1; rw [List.length_map, hBl] at this; exact this
          have hu2 : (data.map B8)[at_ + k]? = some u := by
            rw [hBS, List.getElem?_map, List.getElem?_take, if_pos (by omega), List.getElem?_drop] at hu
            rw [List.getElem?_map]; exact hu
          obtain ⟨b, o, e, hcc⟩ := hW.sl _ _ hu2
          refine ⟨b, o + at_, ?_, by rw [Nat.add_assoc]; exact hcc⟩
          rw [← hA', if_neg (by omega), e, Option.map_some, Addr.add_lit])
        have hrn : r ≤ 200 := by omega
        have hato : at_ ≤ tt := by omega
        have htod : tt ≤ dl := by omega
        have l1 : (0 : Int) ≤ (at_ : Int) := by omega
        have l2 : (at_ : Int) ≤ (tt : Int) := by omega
        have l3 : (tt : Int) ≤ (dl : Int) := by omega
        have l4 : (tt : Int) ≤ (c : Int) := by omega
        have l5 : (at_ : Int) ≤ (c : Int) := by omega
        have l6 : IntKind.i64.wrap ((at_ : Int) + (nn : Int)) = (at_ : Int) + (nn : Int) := by rw [IntKind.wrap_i64]; omega
        have l7 : min ((at_ : Int) + (nn : Int)) (dl : Int) = (tt : Int) := by omega
        have l8 : IntKind.i64.wrap (tkn + (r : Int)) = tkn + (r : Int) := by rw [IntKind.wrap_i64]; omega
        have HBL := Lib.hid hBl
        have HRR := Lib.hid hr
        have hbs0 := HBW.out.size
        have HTK2 : Hid (takenM 1 (setTk 1 (tkn + (r : Int)) tk) = tkn + (r : Int)) := (show _ = _ from by rw [takenM_set, if_pos rfl])
        have htl2 : (setTk 1 (tkn + (r : Int)) tk).length ≤ j + 1 := by have := setTk_len 1 (tkn + (r : Int)) tk; omega
        generalize setTk 1 (tkn + (r : Int)) tk = tk2 at *
        clear gr1 gr2 gr3 hBS hBl hto hz1' hz2' hzr hr
        go_wp2_with fail
        refine HWI.out.mono ?_
        rintro e w5 ⟨rfl, hw5⟩
        subst hw5
        go_wp2_with fail
        refine HR.out.mono ?_
        rintro e w6 ⟨DB, cb, S3, rfl, ob, h6, f6, b6, n6⟩
        have ho6 := own_keepN HO.out (fun g hg => f6.k g (own_ltN HO.out hg).1 (HD.out g hg))
        have hd6 : ∀ g, DD = some ⟨g, 0, none⟩ → ¬ S3 g := fun g hg e => HD.out g hg (f6.n g (own_ltN HO.out hg).1 e)
        have hdb : ∀ g, DD = some ⟨g, 0, none⟩ → DB ≠ some ⟨g, 0, none⟩ := fun g hg e => by
          have h1 := (own_ltN HO.out hg).1
          have h2 := (own_ltN ob e).2
          omega
        have HS := Lib.hid (sameB_calls DB A' r (tt - at_) cb (c - at_) BS BS w6 HBL.out (by rw [HBL.out]; exact HRR.out) (by omega) (by omega) ob.sl (HSL.out _ ho6))
        rw [eqL_self] at HS
        have HOB6 := Lib.hid (ob.mono hbs0)
        have HY6 := Lib.hid h6
        have HO6 := Lib.hid ho6
        have HD6 := Lib.hid hd6
        have HDB := Lib.hid hdb
        have HN6 := Lib.hid n6
        have HW6 := Lib.hid (HBW.out.trans b6)
        clear HWI HR HY HO HD HBW ob h6 ho6 hd6 hdb n6 f6 b6 hc HSL
        go_wp2_with fail
        refine HS.out.mono ?_
        rintro e w7 ⟨rfl, q7, hq7⟩
        have HY7 : Hid (YV w7 w.heap.size y [⟨1, nF, data⟩] tk2 S3) := (show YV _ _ _ _ _ _ from by rw [hq7]; exact HY6.out.drewN q7)
        have HO7 : Hid (OwnB w7 w.heap.size 5 1 DD dl c (data.map B8)) := (show OwnB _ _ _ _ _ _ _ _ from by rw [hq7]; exact HO6.out.drewN q7)
        have HOB7 : Hid (OwnB w7 w.heap.size 5 1 DB r cb (BS.map B8)) := (show OwnB _ _ _ _ _ _ _ _ from by rw [hq7]; exact HOB6.out.drewN q7)
        have HW7 : Hid (Below w.heap.size w w7) := (show Below _ _ _ from by rw [hq7]; exact below_drewN HW6.out q7)
        clear HY6 HO6 HOB6 HW6 hq7 HS hA'
        go_wp2_with fail
        go_loopw [18] (fun s18 wq => ∃ (q : Nat) (ys : List UInt8), q ≤ r ∧ s18 = .int .i64 q ∧ Hid (ys.length = r) ∧ Hid (OwnB wq w.heap.size 5 1 DB r cb (ys.map B8)) ∧ Hid (wq.heap.size = w7.heap.size ∧ ∀ g, DB ≠ some ⟨g, 0, none⟩ → wq.heap[g]? = w7.heap[g]?) ∧ Hid (Below w.heap.size w wq)) (fun s _ => r - (intOf s).toNat)
        case atStart => exact ⟨0, BS, Nat.zero_le _, rfl, HBL, HOB7, (show _ ∧ _ from ⟨rfl, fun _ _ => rfl⟩), HW7⟩
        case round =>
          obtain ⟨q, ys, hq, rfl, HYL, HYB, HOT, HWQ⟩ := hrel
          clear HOB7
          by_cases hql : q < r
          · have hqy : q < ys.length := by rw [HYL.out]; exact hql
            have k0 : (0 : Int) ≤ (q : Int) := by omega
            have k1 : (q : Int) < (r : Int) := by omega
            have hwq1 : IntKind.i64.wrap ((q : Int) + 1) = (q : Int) + 1 := by rw [IntKind.wrap_i64]; omega
            obtain ⟨g, rfl, hgB, hcell⟩ := own_shape HYB.out (by omega)
            obtain ⟨hcq, hfq⟩ := hcell q _ (by rw [List.getElem?_map, List.getElem?_eq_getElem hqy]; rfl)
            have HV := comp_set ys q hqy
            have HYB2 := Lib.hid (own_set HYB.out q (by rw [List.length_map]; exact hqy) (.int .u8 (255 - (ys[q].toNat : Int))))
            rw [← HV] at HYB2
            have HYL2 : Hid ((ys.set q (UInt8.ofNat (255 - ys[q].toNat))).length = r) := (show _ = _ from by rw [List.length_set]; exact HYL.out)
            have HOT2 : Hid ((wr.setCell ⟨g, q, none⟩ (.int .u8 (255 - (ys[q].toNat : Int)))).heap.size = w7.heap.size ∧ ∀ g', (some ⟨g, 0, none⟩ : Option Addr) ≠ some ⟨g', 0, none⟩ → (wr.setCell ⟨g, q, none⟩ (.int .u8 (255 - (ys[q].toNat : Int)))).heap[g']? = w7.heap[g']?) := (show _ ∧ _ from ⟨by simp [World.setCell]; exact HOT.out.1, fun g' hg' => (Below.heap_setCell wr ⟨g, q, none⟩ _ g' (fun e => hg' (by simp only at e; rw [e]))).trans (HOT.out.2 g' hg')⟩)
            have HWQ2 : Hid (Below w.heap.size w (wr.setCell ⟨g, q, none⟩ (.int .u8 (255 - (ys[q].toNat : Int))))) := (show Below _ _ _ from HWQ.out.setCell (p := ⟨g, q, none⟩) hgB _)
            have hy := ys[q].toNat_lt
            generalize ys.set q (UInt8.ofNat (255 - ys[q].toNat)) = ys2 at HYB2 HYL2
            generalize hyq : ys[q].toNat = yy at hcq hy HYB2 HOT2 HWQ2
            unfold B8 at hcq
            simp only [hyq] at hcq
            clear HYB HYL HOT HWQ HV hyq hcell
            have hwy : IntKind.u8.wrap (255 - (yy : Int)) = 255 - (yy : Int) := IntWalk.u8_in _ (by omega)
            go_wp2_with fail
            exact ⟨⟨q + 1, ys2, by omega, rfl, HYL2, HYB2, HOT2, HWQ2⟩, by simp [intOf]; omega⟩
          · have k1 : ¬ (q : Int) < (r : Int) := by omega
            have hs8 := HOT.out.1
            have HY8 : Hid (YV wr w.heap.size y [⟨1, nF, data⟩] tk2 S3) := (show YV _ _ _ _ _ _ from HY7.out.keep (by omega) (fun g _ hS => HOT.out.2 g (fun e => HN6.out g e hS)))
            have HO8 : Hid (OwnB wr w.heap.size 5 1 DD dl c (data.map B8)) := (show OwnB _ _ _ _ _ _ _ _ from own_keepN HO7.out (fun g hg => HOT.out.2 g (HDB.out g hg)))
            clear HYB HYL HOT HY7 HO7 HW7 HN6 HDB hs8
            go_wp2_with fail
            exact ⟨⟨j + 1, tt, tkn + (r : Int), tk2, S3, by omega, by omega, rfl, rfl, rfl, htod, by omega, by omega, htl2, HTK2, HY8, HO8, HD6, HWQ⟩, by simp [intOf]; omega⟩
      · have hout : (¬ (j : Int) < (n1 : Int)) ∨ ((j : Int) < (n1 : Int) ∧ ¬ (j : Int) < 30) := by omega
        have HT := Lib.hid (takenV HY.out 1 HTK.out (by omega))
        have hbs0 := HBW.out.size
        clear HY HO HD
        rcases hout with h1 | ⟨h1, h2⟩
        all_goals
          go_wp2_with fail
          refine HT.out.mono ?_
          rintro e w5 ⟨rfl, q5, hq5⟩
          have HB5 : Hid (Below w.heap.size w w5) := (show Below _ _ _ from by rw [hq5]; exact below_drewN HBW.out q5)
          clear hq5 HT
          go_wp2_with fail
          refine (yardRuns_calls _).mono ?_
          rintro e w6 ⟨rfl, b6⟩
          have HB6 := Lib.hid (HB5.out.trans (b6.mono HB5.out.size))
          clear b6 HB5
          go_wp2_with fail
          go_ret
          exact ⟨rfl, HB6.out⟩
end Go.Proofs.Ytbmgeomndfodpaa
