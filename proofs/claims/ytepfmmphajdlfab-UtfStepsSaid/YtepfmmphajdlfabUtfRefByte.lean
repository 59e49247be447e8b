/-
  The contract of spoorref7.Byte.
-/
import Derived.Test.YtepfmmphajdlfabUtfMore
namespace Go.Proofs.Ytepfmmphajdlfab
open Go.RowKit Go.Mem

theorem begunU_true {bs : List UInt8} (h : begunU bs = true) : startU bs = 0 := by
  unfold begunU at h
  rw [Bool.and_eq_true] at h
  exact of_decide_eq_true h.2
theorem begunU_false {bs : List UInt8} (hp : 0 < bs.length) (h : begunU bs = false) : ¬ (bs = [] ∨ startU bs = 0) := by
  unfold begunU at h
  rw [decide_eq_true hp, Bool.true_and] at h
  intro e
  rcases e with rfl | e
  · simp at hp
  · exact of_decide_eq_false h e

/-- what is told is new memory; what is held lies in new memory -/
def RefByteEnds (w : World) (r : List UInt8 × List (Nat × Nat)) (e : Ending) (w' : World) : Prop := ∃ (D1 D2 : Option Addr) (n1 c1 m cD : Nat), e = .returned (.tuple #[.slice D1 n1 c1, .slice D2 m cD]) ∧ n1 = r.1.length ∧ m = r.2.length ∧ m ≤ 1000001 ∧ Sl w' D1 (r.1.map B8) ∧ (∀ b o s, D1 = some ⟨b, o, s⟩ → w.heap.size ≤ b ∧ b < w'.heap.size) ∧ OwnB w' w.heap.size 26 2 D2 m cD (flatG r.2) ∧ Below w.heap.size w w'

set_option maxRecDepth 100000 in
set_option maxHeartbeats 3200000 in
theorem refByte_calls (A : Option Addr) (n c : Nat) (h : List UInt8) (x : UInt8) (w : World) (hl : h.length = n) (hn : n ≤ 1000000) (hs : Sl w A (h.map B8)) :
    Calls Try.prog 16 #[.slice A n c, .int .u8 (x.toNat : Int)] w (RefByteEnds w (loopU (h ++ [x]))) := by
  subst hl
  obtain ⟨i0, hi, hz0, hz1, hz2⟩ := info_parts infoU8
  obtain ⟨j0, hj, hy0, hy1, hy2⟩ := info_parts infoGot
  generalize hR : loopU (h ++ [x]) = R
  have HR0 : Hid ((loopU (h ++ [x])).1 = R.1 ∧ [] ++ (loopU (h ++ [x])).2 = R.2) := (show _ ∧ _ by rw [hR]; exact ⟨rfl, rfl⟩)
  clear hR
  go_enter Try.func16, Try.ntmps16
  go_wp2_with (at_builtin; refine wpList_append_ownK (o := ⟨some 11, _, _, _, _, _⟩) rfl (.tmp 9) (.tmp 10) 24 24 rfl 5 i0 (.int .u8 0) 1 1 Try.underlying24 hi hz0 hz1 hz2 rfl w.heap.size (some ⟨w.heap.size, 0, none⟩) 0 0 [] rfl (OwnB.empty rfl (Nat.le_refl _)) (.slice A h.length c) rfl h.length (h.map B8) (srcSl Try.underlying24 (by simp) (hs.alloc _) (bytes_one h)) (by omega) (by omega) w ((Below.refl _ _).alloc (Nat.le_refl _) _) (by simp) ?_)
  intro w3 D3 c3 HO3 HK3 hb3 hsz3
  have HO4 : Hid (OwnB w3 w.heap.size 5 1 D3 h.length c3 (h.map B8)) := (show OwnB _ _ _ _ _ _ _ _ from by simpa using HO3.out)
  clear HO3 HK3 hsz3
  have hB3 := hb3.size
  go_wp2_with (at_builtin; refine wpList_append_ownK (o := ⟨some 14, _, _, _, _, _⟩) rfl (.tmp 11) (.tmp 13) 24 24 rfl 5 i0 (.int .u8 0) 1 1 Try.underlying24 hi hz0 hz1 hz2 rfl w.heap.size D3 h.length c3 (h.map B8) rfl (HO4.out.alloc _) (.slice (some ⟨w3.heap.size, 0, none⟩) 1 1) rfl 1 [.int .u8 (x.toNat : Int)] (srcSl Try.underlying24 rfl (Sl.new rfl rfl) (by simp [Value.oneCell'])) (by omega) (by omega) w (hb3.alloc hB3 _) (by simp; omega) ?_)
  intro w4 D4 c4 HO5 HK5 hb4 hsz4
  have HO6 : Hid (OwnB w4 w.heap.size 5 1 D4 (h.length + 1) c4 ((h ++ [x]).map B8)) := (show OwnB _ _ _ _ _ _ _ _ by rw [List.map_append]; exact HO5.out)
  clear HO5 HK5 hsz4 HO4 hb3 hB3 hs
  have hl4 : (h ++ [x]).length = h.length + 1 := by simp
  have HL4 := Lib.hid hl4
  have hcap := HO6.out.le
  have HS4 : Hid (Sl w4 D4 ((h ++ [x]).map B8)) := (show Sl _ _ _ from HO6.out.sl)
  have HA4 : Hid (∀ b o s, D4 = some ⟨b, o, s⟩ → w.heap.size ≤ b ∧ b < w4.heap.size) := (show ∀ _ _ _, _ → _ from fun b o s e => by
    rcases HO6.out.2.2 with ⟨e2, _⟩ | ⟨g, sp, e2, hg, hb, _⟩
    · rw [e] at e2; cases e2
    · rw [e] at e2; injection e2 with e2; injection e2 with e3; subst e3; exact ⟨hg, hb.lt⟩)
  have hB4 := hb4.size
  clear HO6 hl4
  generalize h ++ [x] = cur0 at HR0 HL4 HS4
  go_wp2_with fail
  go_loopw [6, 7, 8] (fun b l _ wr => ∃ (A' D : Option Addr) (n' c' m cD : Nat) (cur : List UInt8) (told : List (Nat × Nat)), b = .slice A' n' c' ∧ l = .slice D m cD ∧ n' ≤ c' ∧ Hid (n' = cur.length) ∧ Hid (Sl w4 A' (cur.map B8)) ∧ Hid (∀ b o s, A' = some ⟨b, o, s⟩ → w.heap.size ≤ b ∧ b < w4.heap.size) ∧ Hid (OwnB wr w4.heap.size 26 2 D m cD (flatG told)) ∧ Hid (m = told.length) ∧ m + n' ≤ 1000001 ∧ Hid ((loopU cur).1 = R.1 ∧ told ++ (loopU cur).2 = R.2) ∧ Below w4.heap.size w4 wr) (fun b _ _ _ => match b with | .slice _ k _ => k | _ => 0)
  case atStart => exact ⟨D4, none, h.length + 1, c4, 0, 0, cur0, [], by first | rfl | simp, rfl, hcap, (show _ = _ from HL4.out.symm), HS4, HA4, (show OwnB _ _ _ _ _ _ _ _ from OwnB.nil _ _ _ _), (show _ = _ from rfl), by omega, HR0, Below.refl _ _⟩
  case round =>
    clear HS4 HA4 HR0 HL4 hcap
    obtain ⟨A', D, n', c', m, cD, cur, told, rfl, rfl, hcc, HN, HS, HA, HO, HM, hmn, HR, hB⟩ := hrel
    have hnn := HN.out
    subst hnn
    clear HN
    have hBw := hB.size
    have hfin : ∀ q, (cur = [] ∨ startU cur = 0) → RefByteEnds w R (.returned (.tuple #[.slice A' cur.length c', .slice D m cD])) (wr.drewN q) := fun q hst => by
      have hR := HR.out
      rw [loopU_stop hst] at hR
      exact ⟨A', D, _, c', m, cD, rfl, by rw [← hR.1], by rw [← hR.2, List.append_nil]; exact HM.out, by omega, by rw [← hR.1]; exact HS.out.below (below_drewN hB q), fun b o s e => ⟨(HA.out b o s e).1, Nat.lt_of_lt_of_le (HA.out b o s e).2 hBw⟩, by rw [← hR.2, List.append_nil]; exact (HO.out.mono hB4).drewN q, (hb4.trans (hB.mono hB4)).trans (below_drewN (Below.refl _ _) q)⟩
    have HFin := Lib.hid hfin
    clear hfin
    by_cases hp : 0 < cur.length
    · have HSr := HS.out.below hB
      have hd1 : decide ((0 : Int) < (cur.length : Int)) = true := decide_eq_true (by omega)
      have HBG := Lib.hid (begun_calls cur A' cur.length c' wr rfl (by omega) HSr)
      cases hbg : begunU cur with
      | true =>
        have hst := begunU_true hbg
        rw [hbg] at HBG
        have HF2 := Lib.hid (fun q => HFin.out q (.inr hst))
        clear hst hbg HFin HR HS HA HO HM HSr
        go_wp2_with fail
        refine HBG.out.mono ?_
        rintro e w5 ⟨rfl, q, rfl⟩
        go_wp2_with fail
        go_ret2
        exact HF2.out q
      | false =>
        have hR := HR.out
        rw [loopU_more (begunU_false hp hbg)] at hR
        rw [hbg] at HBG
        have hg1 := frontU_pos cur
        have hg2 := (frontU_le cur hp).1
        obtain ⟨b, o, rfl, hcx⟩ := HSr.byte hp
        have HFC := Lib.hid (fun (W : World) (hw : Sl W (some ⟨b, o, none⟩) (cur.map B8)) => first_calls cur (some ⟨b, o, none⟩) cur.length c' W rfl hp (by omega) hw)
        generalize frontU cur = G at HFC hR hg1 hg2
        obtain ⟨gr, gn⟩ := G
        simp only at hR hg1 hg2
        have HR2 := Lib.hid hR
        clear hR HR hbg HFin hcx
        go_wp2_with fail
        refine HBG.out.mono ?_
        rintro e w5 ⟨rfl, q, rfl⟩
        go_wp2_with fail
        refine (HFC.out _ (HSr.drewN q)).mono ?_
        unfold FrontEnds
        rintro e w2 ⟨rfl, b2⟩
        have HO2 := Lib.hid ((HO.out.drewN q).below b2)
        have hB2 := (below_drewN hB q).trans (b2.mono hBw)
        have hBw2 := hB2.size
        clear HBG HFC HO hB b2 HSr hBw
        unfold GotV
        go_wp2_with (at_builtin; refine wpList_append_ownK (o := ⟨some 28, _, _, _, _, _⟩) rfl (.tmp 25) (.tmp 27) 22 22 rfl 26 j0 (.agg #[.int .i32 0, Value.int .i64 0]) 2 16 Try.underlying22 hj hy0 hy1 hy2 rfl w4.heap.size D m cD (flatG told) rfl ((HO2.out.alloc _).alloc _) (.slice (some ⟨w2.heap.size + 1, 0, none⟩) 1 1) rfl 1 [.int .i32 (gr : Int), .int .i64 (gn : Int)] (srcOfSl Try.underlying22 rfl (by omega) (Sl.new (by simp) rfl) (fun e => by cases e) (by simp [Value.oneCell'])) (by omega) (by omega) w4 ((hB2.alloc hBw2 _).alloc (by simp; omega) _) (by simp; omega) ?_)
        intro w3 D3 c3 HO3 HK3 hb3 hsz3
        have hbx : Blk w3 w2.heap.size 26 [.int .i32 (gr : Int), .int .i64 (gn : Int)] := HK3.out.blk ((Blk.new w2 26 #[.int .i32 (gr : Int), .int .i64 (gn : Int)]).alloc _) (fun e => Nat.lt_irrefl _ (HO2.out.lt2 _ e))
        have k1 := hbx.cell 1
        simp only [List.getElem?_cons_zero, List.getElem?_cons_succ] at k1
        have HO4 : Hid (OwnB w3 w4.heap.size 26 2 D3 (m + 1) c3 (flatG (told ++ [(gr, gn)]))) := (show OwnB _ _ _ _ _ _ _ _ by rw [flatG_app]; exact HO3.out)
        have HM3 : Hid (m + 1 = (told ++ [(gr, gn)]).length) := (show _ = _ by rw [List.length_append, HM.out]; rfl)
        have HR3 : Hid ((loopU (cur.drop gn)).1 = R.1 ∧ (told ++ [(gr, gn)]) ++ (loopU (cur.drop gn)).2 = R.2) := (show _ ∧ _ from ⟨HR2.out.1, by rw [List.append_assoc]; exact HR2.out.2⟩)
        have hcut := HS.out.cut (k := gn) (cap := c') (by rw [List.length_map]; exact hcc)
        rw [← List.map_drop] at hcut
        have HDL : Hid (cur.length - gn = (cur.drop gn).length) := (show _ = _ from List.length_drop.symm)
        have g0 : (0 : Int) ≤ (gn : Int) := Int.natCast_nonneg _
        have g1 : (gn : Int) ≤ (cur.length : Int) := by omega
        have HA3 : Hid (∀ b' o' s, some (⟨b, o + gn, none⟩ : Addr) = some ⟨b', o', s⟩ → w.heap.size ≤ b' ∧ b' < w4.heap.size) := (show ∀ _ _ _, _ → _ from fun b' o' s e => by injection e with e; injection e with e1; rw [← e1]; exact HA.out b o none rfl)
        clear hbx HO3 HK3 HO2 hsz3 hBw2 hB2 HR2 HM HS
        by_cases hcg : c' = gn
        · rw [if_pos hcg] at hcut
          have HC := Lib.hid hcut
          clear hcut
          go_wp2_with fail
          go_roundw
          case rel => exact ⟨some ⟨b, o, none⟩, D3, cur.length - gn, 0, m + 1, c3, cur.drop gn, told ++ [(gr, gn)], by first | rfl | (simp; omega), rfl, by omega, HDL, HC, HA, HO4, HM3, by omega, HR3, hb3⟩
          case measure => simp; omega
        · rw [if_neg hcg, Option.map_some, Addr.add_lit] at hcut
          have HC := Lib.hid hcut
          clear hcut
          go_wp2_with fail
          go_roundw
          case rel => exact ⟨some ⟨b, o + gn, none⟩, D3, cur.length - gn, c' - gn, m + 1, c3, cur.drop gn, told ++ [(gr, gn)], by first | rfl | (simp; omega), rfl, by omega, HDL, HC, HA3, HO4, HM3, by omega, HR3, hb3⟩
          case measure => simp; omega
    · have hre : cur = [] := List.eq_nil_of_length_eq_zero (by omega)
      have HF2 := Lib.hid (fun q => HFin.out q (.inl hre))
      have hd1 : decide ((0 : Int) < (cur.length : Int)) = false := decide_eq_false (by omega)
      clear hre HFin HR HS HA HO HM
      go_wp2_with fail
      go_ret2
      exact HF2.out 0
end Go.Proofs.Ytepfmmphajdlfab
