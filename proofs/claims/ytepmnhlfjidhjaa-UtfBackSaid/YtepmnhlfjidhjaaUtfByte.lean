/-
  The decoder's Byte.
-/
import Derived.Test.YtepmnhlfjidhjaaUtfDec
import Derived.Deep.RegionLaw
namespace Go.Mem
theorem OwnB.zero5 {w : World} {B : Nat} {e : TypeId} {sz n c : Nat} {D : Option Addr} {pre : List Value} (h : OwnB w B e sz D (0 + n) c ([] ++ pre)) : OwnB w B e sz D n c pre := by simpa using h
end Go.Mem
namespace Go.Proofs.Ytepmnhlfjidhjaa
open Go.RowKit Go.Mem

def ByteEnds (w : World) (B p : Nat) (L : Option Addr) (r : List UInt8 × List (Nat × Nat)) (e : Ending) (w' : World) : Prop := ∃ (L' D : Option Addr) (n c m cD : Nat), e = .returned (.slice D m cD) ∧ m = r.2.length ∧ m ≤ 1000001 ∧ Dec w' B p L' n c r.1 ∧ OwnB w' w.heap.size 26 2 D m cD (flatG r.2) ∧ DFr p L L' w w'

theorem Dec.kept {w w' : World} {B B' p n c k cap sz : Nat} {L D D' : Option Addr} {h : List UInt8} {pre : List Value} (d : Dec w B p L n c h) (hk : Kept w w' D D') (ho : OwnB w B' 26 sz D k cap pre) : Dec w' B p L n c h :=
  ⟨hk.blk_ne ho d.obj (by decide), hk.own_ne ho d.own (by decide), d.len, d.low⟩

theorem DFr.ext {p : Nat} {L L' : Option Addr} {w w2 w3 : World} (h : DFr p L L' w w2) (hb : Below w.heap.size w2 w3) : DFr p L L' w w3 :=
  ⟨hb.os.trans h.os, hb.tape.trans h.tape, hb.output.trans h.output, Nat.le_trans h.size hb.size, fun k hk h1 h2 => (hb.block k hk).trans (h.block k hk h1 h2), h.lies⟩

set_option maxRecDepth 100000 in
set_option maxHeartbeats 3200000 in
theorem byte_calls (B p n c : Nat) (L : Option Addr) (h : List UInt8) (x : UInt8) (w : World) (d : Dec w B p L n c h) (hn : n ≤ 1000000) (hB : B ≤ w.heap.size) :
    Calls Try.prog 18 #[.pointer (some ⟨p, 0, none⟩), .int .u8 (x.toNat : Int)] w (ByteEnds w B p L (loopU (h ++ [x]))) := by
  have c0 := d.obj.cell 0
  simp only [List.getElem?_cons_zero] at c0
  obtain ⟨i0, hi, hz0, hz1, hz2⟩ := info_parts infoU8
  obtain ⟨j0, hj, hy0, hy1, hy2⟩ := info_parts infoGot
  generalize hR : loopU (h ++ [x]) = R
  have HD := Lib.hid d
  have hl := Lib.hid d.len
  have hpw : p < w.heap.size := d.obj.lt
  clear d
  go_enter Try.func18, Try.ntmps18
  go_wp2_with (at_builtin; refine wpList_append_ownK (o := ⟨some 14, _, _, _, _, _⟩) rfl (.tmp 11) (.tmp 13) 24 24 rfl 5 i0 (.int .u8 0) 1 1 Try.underlying24 hi hz0 hz1 hz2 rfl B L n c (h.map B8) rfl (HD.out.own.alloc _) (.slice (some ⟨w.heap.size, 0, none⟩) 1 1) rfl 1 [.int .u8 (x.toNat : Int)] (srcSl Try.underlying24 rfl (Sl.new rfl rfl) (by simp [Value.oneCell'])) (by omega) (by omega) w ((Below.refl _ _).alloc hB _) (by simp; omega) ?_)
  intro w3 L3 c3 HO3 HK3 hb3 hsz3
  have hob3 := HK3.out.blk_ne (HD.out.own.alloc _) (HD.out.obj.alloc _) (by decide)
  have e1 := hob3.cell 0
  have f1 := hob3.frozen 0
  simp only [List.getElem?_cons_zero] at e1
  have hob4 := hob3.set_ 0 (.slice L3 (n + 1) c3)
  have ho4 : OwnB (w3.setCell ⟨p, 0, none⟩ (.slice L3 (n + 1) c3)) B 5 1 L3 (n + 1) c3 ((h ++ [x]).map B8) := by
    have h := HO3.out.only hob3 (by decide) (only_set (only_refl w3 p) 0 (.slice L3 (n + 1) c3))
    rw [List.map_append]
    exact h
  have HD4 : Hid (Dec (w3.setCell ⟨p, 0, none⟩ (.slice L3 (n + 1) c3)) B p L3 (n + 1) c3 (h ++ [x])) := (show Dec _ _ _ _ _ _ _ from ⟨hob4, ho4, by rw [List.length_append, hl.out]; rfl, HD.out.low⟩)
  have HF4 : Hid (DFr p L L3 w (w3.setCell ⟨p, 0, none⟩ (.slice L3 (n + 1) c3))) := (show DFr _ _ _ _ _ from by
    refine ⟨hb3.os, hb3.tape, hb3.output, ?_, fun k hk h1 h2 => ?_, ?_⟩
    · have := hsz3
      simp [World.setCell] at this ⊢
      omega
    · rw [Below.heap_setCell w3 ⟨p, 0, none⟩ _ k h1, HK3.out.1 k (by simp; omega) h2, Below.heap_alloc _ _ _ (by omega)]
    · rcases HK3.out.2 with h | h
      · exact .inl h
      · exact .inr ⟨_, h, by simp⟩)
  have HR : Hid ((loopU (h ++ [x])).1 = R.1 ∧ [] ++ (loopU (h ++ [x])).2 = R.2) := (show _ ∧ _ by rw [hR]; exact ⟨rfl, rfl⟩)
  have hl4 : (h ++ [x]).length = n + 1 := by rw [List.length_append, hl.out]; rfl
  have HL4 := Lib.hid hl4
  generalize h ++ [x] = cur0 at HD4 HR HL4
  clear HO3 HK3 hb3 hsz3 hob3 hob4 ho4 hR HD hl c0 hl4
  go_wp2_with fail
  clear e1 f1
  go_loopw [5, 6] (fun l _ wr => ∃ (L' D : Option Addr) (n' c' m cD : Nat) (cur : List UInt8) (told : List (Nat × Nat)), l = .slice D m cD ∧ Hid (Dec wr B p L' n' c' cur) ∧ Hid (OwnB wr w.heap.size 26 2 D m cD (flatG told)) ∧ Hid (m = told.length) ∧ m + n' ≤ 1000001 ∧ Hid (DFr p L L' w wr) ∧ Hid ((loopU cur).1 = R.1 ∧ told ++ (loopU cur).2 = R.2)) (fun _ _ wr => match wr.cell? ⟨p, 0, none⟩ with | some (.slice _ k _) => k | _ => 0)
  case atStart => exact ⟨L3, none, n + 1, c3, 0, 0, cur0, [], rfl, HD4, (show OwnB _ _ _ _ _ _ _ _ from OwnB.nil _ _ _ _), (show _ = _ from rfl), by omega, HF4, HR⟩
  case round =>
    clear HD4 HF4 HR HL4
    obtain ⟨L', D, n', c', m, cD, cur, told, rfl, HD, HO, HM, hmn, HF, HR⟩ := hrel
    have hl := HD.out.len
    subst hl
    have c0 := HD.out.obj.cell 0
    simp only [List.getElem?_cons_zero] at c0
    by_cases hp : 0 < cur.length
    · have hd1 : decide ((0 : Int) < (cur.length : Int)) = true := decide_eq_true (by omega)
      have hsl := HD.out.own.sl
      have hcc := HD.out.own.le
      have HST := Lib.hid (start_calls cur L' cur.length c' wr rfl hp (by omega) hsl)
      by_cases hs0 : startU cur = 0
      · rw [hs0] at HST
        have hR := HR.out
        rw [loopU_stop (.inr hs0)] at hR
        have HFin : Hid (ByteEnds w B p L R (.returned (.slice D m cD)) wr) := (show ByteEnds _ _ _ _ _ _ _ from ⟨L', D, cur.length, c', m, cD, rfl, by rw [← hR.2, List.append_nil]; exact HM.out, by omega, by rw [← hR.1]; exact HD.out, by rw [← hR.2, List.append_nil]; exact HO.out, HF.out⟩)
        clear hR HR HD HO HM HF hs0 hsl
        go_wp2_with fail
        refine HST.out.mono ?_
        rintro e w4 ⟨rfl, rfl⟩
        go_wp2_with fail
        go_ret
        exact HFin.out
      · have hR := HR.out
        rw [loopU_more (fun e => by rcases e with rfl | e; (· simp at hp); (· exact hs0 e))] at hR
        have hg1 := frontU_pos cur
        have hg2 := (frontU_le cur hp).1
        have HFR := Lib.hid (front_calls cur L' cur.length c' wr rfl hp (by omega) hcc hsl)
        generalize startU cur = S0 at HST hs0
        have hd2 : (S0 != 0) = true := by simpa using hs0
        generalize frontU cur = G at HFR hR hg1 hg2
        obtain ⟨gr, gn⟩ := G
        simp only at hR hg1 hg2
        have HR2 := Lib.hid hR
        clear hR HR hs0 hsl
        go_wp2_with fail
        refine HST.out.mono ?_
        rintro e w4 ⟨rfl, rfl⟩
        go_wp2_with fail
        refine HFR.out.mono ?_
        unfold FrontEnds
        rintro e w2 ⟨rfl, b2⟩
        have HD2 := Lib.hid (HD.out.below b2)
        have HO2 := Lib.hid (HO.out.below b2)
        have HF2 := Lib.hid (HF.out.trans (DFr.of_below b2))
        have hw2 := HF2.out.size
        have HC0 := Lib.hid c0
        clear HST HFR HD HO HF c0 b2
        unfold GotV
        go_wp2_with (at_builtin; refine wpList_append_ownK (o := ⟨some 39, _, _, _, _, _⟩) rfl (.tmp 36) (.tmp 38) 22 22 rfl 26 j0 (.agg #[.int .i32 0, Value.int .i64 0]) 2 16 Try.underlying22 hj hy0 hy1 hy2 rfl w.heap.size D m cD (flatG told) rfl ((HO2.out.alloc _).alloc _) (.slice (some ⟨w2.heap.size + 1, 0, none⟩) 1 1) rfl 1 [.int .i32 (gr : Int), .int .i64 (gn : Int)] (srcOfSl Try.underlying22 rfl (by omega) (Sl.new (by simp) rfl) (fun e => by cases e) (by simp [Value.oneCell'])) (by omega) (by omega) w2 (((Below.refl _ _).alloc hw2 _).alloc (by simp; omega) _) (by simp; omega) ?_)
        intro w3 D3 c3 HO3 HK3 hb3 hsz3
        have hbx : Blk w3 w2.heap.size 26 [.int .i32 (gr : Int), .int .i64 (gn : Int)] := HK3.out.blk ((Blk.new w2 26 #[.int .i32 (gr : Int), .int .i64 (gn : Int)]).alloc _) (fun e => Nat.lt_irrefl _ (HO2.out.lt2 _ e))
        have k1 := hbx.cell 1
        simp only [List.getElem?_cons_zero, List.getElem?_cons_succ] at k1
        have HD3 : Hid (Dec w3 B p L' cur.length c' cur) := (show Dec _ _ _ _ _ _ _ from Dec.kept ((HD2.out.below ((Below.refl _ _).alloc (Nat.le_refl _) _)).below ((Below.refl _ _).alloc (Nat.le_refl _) _)) HK3.out ((HO2.out.alloc _).alloc _))
        have HF3 := Lib.hid (HF2.out.ext hb3)
        have HM3 : Hid (m + 1 = (told ++ [(gr, gn)]).length) := (show _ = _ by rw [List.length_append, HM.out]; rfl)
        have HR3 : Hid ((loopU (cur.drop gn)).1 = R.1 ∧ (told ++ [(gr, gn)]) ++ (loopU (cur.drop gn)).2 = R.2) := (show _ ∧ _ from ⟨HR2.out.1, by rw [List.append_assoc]; exact HR2.out.2⟩)
        have HO4 : Hid (OwnB w3 w.heap.size 26 2 D3 (m + 1) c3 (flatG (told ++ [(gr, gn)]))) := (show OwnB _ _ _ _ _ _ _ _ by rw [flatG_app]; exact HO3.out)
        clear hbx HO3 HK3 HO2 hsz3 hw2 HD2 HF2 HR2 HM hb3
        have hw3 := HF3.out.size
        generalize w2.heap.size = gb at k1 ⊢
        have c0' := HD3.out.obj.cell 0
        simp only [List.getElem?_cons_zero] at c0'
        obtain ⟨b, o, rfl, hcx⟩ := HD3.out.own.sl.byte hp
        clear hcx
        have hcut := HD3.out.own.sl.cut (k := gn) (cap := c') (by rw [List.length_map]; exact hcc)
        rw [← List.map_drop] at hcut
        have hdl : (cur.drop gn).length = cur.length - gn := List.length_drop
        have g0 : (0 : Int) ≤ (gn : Int) := Int.natCast_nonneg _
        have g1 : (gn : Int) ≤ (cur.length : Int) := by omega
        have HDL := Lib.hid hdl
        clear hdl
        by_cases hcg : c' = gn
        · obtain rfl : gn = c' := hcg.symm
          have hgl : gn = cur.length := Nat.le_antisymm hg2 hcc
          have HDN : Hid (cur.drop gn = []) := (show _ = _ from List.drop_eq_nil_of_le (by omega))
          clear hcut
          have HGL := Lib.hid hgl
          clear hgl
          go_wp2_with fail
          go_region_law (first | (refine step_append_ownK (o := ⟨some 53, _, _, _, _, _⟩) (by rfl) (.tmp 45) (.tmp 52) 24 24 (by rfl) 5 i0 (.int .u8 0) 1 1 Try.underlying24 hi hz0 hz1 hz2 rfl B (some ⟨b, o, none⟩) 0 gn [] (by simp [Act.eval, Act.put]) (HD3.out.own.front.drewN 1) (.slice (some ⟨b, o, none⟩) 0 0) (by simp [Act.eval, Act.put]) 0 [] (srcSl Try.underlying24 rfl (fun k v h => by simp at h) (by simp)) (by omega) (by omega) w3 (below_drewN (Below.refl _ _) 1) (by simp; try omega) ?_; intro w5 L5 c5 HO5 HK5 hb5 hsz5; have hob5 := HK5.out.blk_ne (HD3.out.own.drewN 1) HD3.out.obj.drew (by decide); have e5 := hob5.cell 0; have f5 := hob5.frozen 0; simp only [List.getElem?_cons_zero] at e5))
          all_goals
            have HO6 := Lib.hid HO5.out.zero5
            have hob6 := hob5.set_ 0 (.slice L5 (0) c5)
            have e6 := hob6.cell 0
            have ho6 : OwnB (w5.setCell ⟨p, 0, none⟩ (.slice L5 (0) c5)) B 5 1 L5 (0) c5 ((cur.drop gn).map B8) := by
              have h := HO6.out.only hob5 (by decide) (only_set (only_refl w5 p) 0 (.slice L5 (0) c5))
              rw [HDN.out]
              exact h
            have HD6 : Hid (Dec (w5.setCell ⟨p, 0, none⟩ (.slice L5 (0) c5)) B p L5 (0) c5 (cur.drop gn)) := (show Dec _ _ _ _ _ _ _ from ⟨hob6, ho6, by rw [HDN.out]; rfl, HD3.out.low⟩)
            have HO7 : Hid (OwnB (w5.setCell ⟨p, 0, none⟩ (.slice L5 (0) c5)) w.heap.size 26 2 D3 (m + 1) c3 (flatG (told ++ [(gr, gn)]))) := (show OwnB _ _ _ _ _ _ _ _ from OwnB.only (HK5.out.own_ne (HD3.out.own.drewN 1) (HO4.out.drewN 1) (by decide)) hob5 (by decide) (only_set (only_refl w5 p) 0 _))
            have HF6 : Hid (DFr p L L5 w (w5.setCell ⟨p, 0, none⟩ (.slice L5 (0) c5))) := (show DFr _ _ _ _ _ from HF3.out.trans (by
              refine ⟨hb5.os, hb5.tape, hb5.output, ?_, fun i hi h1 h2 => ?_, ?_⟩
              · have := hb5.size
                simp [World.setCell]
                omega
              · rw [Below.heap_setCell w5 ⟨p, 0, none⟩ _ i h1]
                exact HK5.out.1 i hi h2
              · rcases HK5.out.2 with h | h
                · exact .inl h
                · exact .inr ⟨_, h, Nat.le_refl _⟩))
            clear HO5 HO6 HK5 hb5 hsz5 hob5 e5 f5 hob6 ho6 HO4 HF3 k1 c0' HD3
            go_wp2_with fail
            go_roundw
            case rel => exact ⟨L5, D3, 0, c5, m + 1, c3, cur.drop gn, told ++ [(gr, gn)], rfl, HD6, HO7, HM3, by omega, HF6, HR3⟩
            case measure => rw [HC0.out, e6]; simp; omega
        · rw [if_neg hcg, Option.map_some, Addr.add_lit] at hcut
          have HC := Lib.hid hcut
          clear hcut
          go_wp2_with fail
          go_region_law (first | (refine step_append_ownK (o := ⟨some 53, _, _, _, _, _⟩) (by rfl) (.tmp 45) (.tmp 52) 24 24 (by rfl) 5 i0 (.int .u8 0) 1 1 Try.underlying24 hi hz0 hz1 hz2 rfl B (some ⟨b, o, none⟩) 0 c' [] (by simp [Act.eval, Act.put]) (HD3.out.own.front.drewN 1) (.slice (some ⟨b, o + gn, none⟩) (cur.length - gn) (c' - gn)) (by simp [Act.eval, Act.put]) (cur.length - gn) ((cur.drop gn).map B8) (srcSl Try.underlying24 (by rw [List.length_map]; exact HDL.out) HC.out.drew (bytes_one _)) (by omega) (by omega) w3 (below_drewN (Below.refl _ _) 1) (by simp; try omega) ?_; intro w5 L5 c5 HO5 HK5 hb5 hsz5; have hob5 := HK5.out.blk_ne (HD3.out.own.drewN 1) HD3.out.obj.drew (by decide); have e5 := hob5.cell 0; have f5 := hob5.frozen 0; simp only [List.getElem?_cons_zero] at e5))
          all_goals
            have HO6 := Lib.hid HO5.out.zero5
            have hob6 := hob5.set_ 0 (.slice L5 (cur.length - gn) c5)
            have e6 := hob6.cell 0
            have ho6 : OwnB (w5.setCell ⟨p, 0, none⟩ (.slice L5 (cur.length - gn) c5)) B 5 1 L5 (cur.length - gn) c5 ((cur.drop gn).map B8) := by
              have h := HO6.out.only hob5 (by decide) (only_set (only_refl w5 p) 0 (.slice L5 (cur.length - gn) c5))
              skip
              exact h
            have HD6 : Hid (Dec (w5.setCell ⟨p, 0, none⟩ (.slice L5 (cur.length - gn) c5)) B p L5 (cur.length - gn) c5 (cur.drop gn)) := (show Dec _ _ _ _ _ _ _ from ⟨hob6, ho6, HDL.out.symm, HD3.out.low⟩)
            have HO7 : Hid (OwnB (w5.setCell ⟨p, 0, none⟩ (.slice L5 (cur.length - gn) c5)) w.heap.size 26 2 D3 (m + 1) c3 (flatG (told ++ [(gr, gn)]))) := (show OwnB _ _ _ _ _ _ _ _ from OwnB.only (HK5.out.own_ne (HD3.out.own.drewN 1) (HO4.out.drewN 1) (by decide)) hob5 (by decide) (only_set (only_refl w5 p) 0 _))
            have HF6 : Hid (DFr p L L5 w (w5.setCell ⟨p, 0, none⟩ (.slice L5 (cur.length - gn) c5))) := (show DFr _ _ _ _ _ from HF3.out.trans (by
              refine ⟨hb5.os, hb5.tape, hb5.output, ?_, fun i hi h1 h2 => ?_, ?_⟩
              · have := hb5.size
                simp [World.setCell]
                omega
              · rw [Below.heap_setCell w5 ⟨p, 0, none⟩ _ i h1]
                exact HK5.out.1 i hi h2
              · rcases HK5.out.2 with h | h
                · exact .inl h
                · exact .inr ⟨_, h, Nat.le_refl _⟩))
            clear HO5 HO6 HK5 hb5 hsz5 hob5 e5 f5 hob6 ho6 HO4 HF3 k1 c0' HD3
            go_wp2_with fail
            go_roundw
            case rel => exact ⟨L5, D3, cur.length - gn, c5, m + 1, c3, cur.drop gn, told ++ [(gr, gn)], rfl, HD6, HO7, HM3, by omega, HF6, HR3⟩
            case measure => rw [HC0.out, e6]; simp; omega
    · have hre : cur = [] := List.eq_nil_of_length_eq_zero (by omega)
      subst hre
      have hR := HR.out
      rw [loopU_stop (.inl rfl)] at hR
      have HFin : Hid (ByteEnds w B p L R (.returned (.slice D m cD)) wr) := (show ByteEnds _ _ _ _ _ _ _ from ⟨L', D, _, c', m, cD, rfl, by rw [← hR.2, List.append_nil]; exact HM.out, by omega, by rw [← hR.1]; exact HD.out, by rw [← hR.2, List.append_nil]; exact HO.out, HF.out⟩)
      clear hR HR HD HO HM HF
      simp only [List.length_nil] at c0
      go_wp2_with fail
      go_ret
      exact HFin.out
end Go.Proofs.Ytepmnhlfjidhjaa
