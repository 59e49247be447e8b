/-
  The contract of utf.All.
-/
import Derived.Test.YtepmnhlfjidhjaaUtfValue
import Derived.Test.YtepmnhlfjidhjaaApp2
namespace Go.Mem
theorem OwnB.lt2 {w : World} {B sz k cap : Nat} {e : TypeId} {D : Option Addr} {pre : List Value} (h : OwnB w B e sz D k cap pre) : ∀ g, D = some ⟨g, 0, none⟩ → g < w.heap.size := fun g hd => by
  rcases h.2.2 with ⟨h3, _⟩ | ⟨g2, sp, hd2, _, hb, _⟩
  · rw [hd] at h3; cases h3
  · obtain rfl : g = g2 := by rw [hd] at hd2; injection hd2 with e; injection e
    exact hb.lt
end Go.Mem
namespace Go.Proofs.Ytepmnhlfjidhjaa
open Go.RowKit Go.Mem

def flatG (l : List (Nat × Nat)) : List Value := l.flatMap fun g => [.int .i32 (g.1 : Int), .int .i64 (g.2 : Int)]
theorem flatG_length (l : List (Nat × Nat)) : (flatG l).length = l.length * 2 := by
  induction l with
  | nil => rfl
  | cons x r ih => simp only [flatG, List.flatMap_cons, List.length_append, List.length_cons, List.length_nil] at ih ⊢; omega
theorem flatG_app (l m : List (Nat × Nat)) : flatG (l ++ m) = flatG l ++ flatG m := by simp [flatG]

/-- the runes of bytes -/
def allU (bs : List UInt8) : List (Nat × Nat) := if _h : bs = [] then [] else frontU bs :: allU (bs.drop (frontU bs).2)
termination_by bs.length
decreasing_by
  have := frontU_pos bs
  have : 0 < bs.length := List.length_pos_iff.2 _h
  rw [List.length_drop]; omega
theorem allU_nil : allU [] = [] := by rw [allU]; simp
theorem allU_cons {bs : List UInt8} (h : 0 < bs.length) : allU bs = frontU bs :: allU (bs.drop (frontU bs).2) := by
  rw [allU]
  exact dif_neg (fun e => by rw [e] at h; simp at h)
theorem infoGot : (Try.prog.info? 26).map (fun i => (i.zero, i.size, i.bytes)) = some (some (.agg #[.int .i32 0, Value.int .i64 0]), 2, 16) := by kernel_rfl
def AllEnds (w : World) (bs : List UInt8) (e : Ending) (w' : World) : Prop := ∃ (D : Option Addr) (m c : Nat), e = .returned (.slice D m c) ∧ m = (allU bs).length ∧ m ≤ bs.length ∧ OwnB w' w.heap.size 26 2 D m c (flatG (allU bs)) ∧ Below w.heap.size w w'

set_option maxRecDepth 100000 in
set_option maxHeartbeats 3200000 in
theorem all_calls (bs : List UInt8) (A : Option Addr) (n c : Nat) (w : World) (hl : bs.length = n) (hmax : n ≤ 4398046511104) (hc : n ≤ c) (hcm : c ≤ 9223372036854775807) (hs : Sl w A (bs.map B8)) :
    Calls Try.prog 15 #[.slice A n c] w (AllEnds w bs) := by
  subst hl
  obtain ⟨i0, hi, hz0, hz1, hz2⟩ := info_parts infoGot
  go_enter Try.func15, Try.ntmps15
  go_wp2_with fail
  go_loopw [0, 3, 4] (fun b l _ wr => ∃ (A' D : Option Addr) (c' m cD : Nat) (rest : List UInt8) (pre : List (Nat × Nat)), b = .slice A' rest.length c' ∧ l = .slice D m cD ∧ rest.length ≤ c' ∧ c' ≤ c ∧ Hid (Sl w A' (rest.map B8)) ∧ Hid (OwnB wr w.heap.size 26 2 D m cD (flatG pre)) ∧ m = pre.length ∧ m + rest.length ≤ bs.length ∧ Hid (pre ++ allU rest = allU bs) ∧ Below w.heap.size w wr) (fun b _ _ _ => match b with | .slice _ k _ => k | _ => 0)
  case atStart => exact ⟨A, none, c, 0, 0, bs, [], rfl, rfl, hc, Nat.le_refl _, hs, OwnB.nil _ _ _ _, rfl, by omega, rfl, Below.refl _ _⟩
  case round =>
    obtain ⟨A', D, c', m, cD, rest, pre, rfl, rfl, hc', hcc, HS, HO, hm, hml, HR, hB⟩ := hrel
    have HM := Lib.hid hm
    clear hm
    by_cases hr : 0 < rest.length
    · have HSr := HS.out.below hB
      obtain ⟨b, o, rfl, hcx⟩ := HSr.byte hr
      clear hcx
      have hF := Lib.hid (front_calls rest (some ⟨b, o, none⟩) rest.length c' wr rfl hr (by omega) hc' HSr)
      have hR2 := HR.out
      rw [allU_cons hr] at hR2
      have hg1 := frontU_pos rest
      have hg2 := (frontU_le rest hr).1
      generalize frontU rest = G at hF hR2 hg1 hg2
      obtain ⟨gr, gn⟩ := G
      simp only at hR2 hg1 hg2
      have HR2 := Lib.hid hR2
      clear hR2 HR
      have hd : decide ((0 : Int) < (rest.length : Int)) = true := decide_eq_true (by omega)
      go_wp2_with fail
      refine hF.out.mono ?_
      unfold FrontEnds
      rintro e w2 ⟨rfl, b2⟩
      have HO2 := Lib.hid (HO.out.below b2)
      have hB2 := hB.trans (b2.mono hB.size)
      have hBw := hB2.size
      clear hF HO hB b2 HSr
      unfold GotV
      go_wp2_with (at_builtin; refine wpList_append_ownK (o := ⟨some 13, _, _, _, _, _⟩) rfl (.tmp 10) (.tmp 12) 22 22 rfl 26 i0 (.agg #[.int .i32 0, Value.int .i64 0]) 2 16 Try.underlying22 hi hz0 hz1 hz2 rfl w.heap.size D m cD (flatG pre) rfl ((HO2.out.alloc _).alloc _) (.slice (some ⟨w2.heap.size + 1, 0, none⟩) 1 1) rfl 1 [.int .i32 (gr : Int), .int .i64 (gn : Int)] (srcOfSl Try.underlying22 rfl (by omega) (Sl.new (by simp) rfl) (fun e => by cases e) (by simp [Value.oneCell'])) (by omega) (by omega) w ((hB2.alloc hBw _).alloc (by simp; omega) _) (by simp; omega) ?_)
      intro w3 D3 c3 HO3 HK3 hb3 hsz3
      have hbx : Blk w3 w2.heap.size 26 [.int .i32 (gr : Int), .int .i64 (gn : Int)] := HK3.out.blk ((Blk.new w2 26 #[.int .i32 (gr : Int), .int .i64 (gn : Int)]).alloc _) (fun e => Nat.lt_irrefl _ (HO2.out.lt2 _ e))
      have k1 := hbx.cell 1
      simp only [List.getElem?_cons_zero, List.getElem?_cons_succ] at k1
      have HO4 : Hid (OwnB w3 w.heap.size 26 2 D3 (m + 1) c3 (flatG (pre ++ [(gr, gn)]))) := (show OwnB _ _ _ _ _ _ _ _ by rw [flatG_app]; exact HO3.out)
      have HR3 : Hid ((pre ++ [(gr, gn)]) ++ allU (rest.drop gn) = allU bs) := (show _ = _ by rw [List.append_assoc]; exact HR2.out)
      have HM3 : Hid (m + 1 = (pre ++ [(gr, gn)]).length) := (show _ = _ by rw [List.length_append, HM.out]; rfl)
      have hcut := HS.out.cut (k := gn) (cap := c') (by rw [List.length_map]; exact hc')
      rw [← List.map_drop] at hcut
      have hdl : (rest.drop gn).length = rest.length - gn := List.length_drop
      have g0 : (0 : Int) ≤ (gn : Int) := Int.natCast_nonneg _
      have g1 : (gn : Int) ≤ (rest.length : Int) := by omega
      have HDL := Lib.hid hdl
      clear hbx HO3 HK3 HO2 hsz3 hBw hB2 HR2 HM HS hdl
      by_cases hcg : c' = gn
      · rw [if_pos hcg] at hcut
        have HC := Lib.hid hcut
        clear hcut
        go_wp2_with fail
        go_roundw
        case rel => exact ⟨some ⟨b, o, none⟩, D3, 0, m + 1, c3, rest.drop gn, pre ++ [(gr, gn)], by rw [HDL.out], rfl, by rw [HDL.out]; omega, by omega, HC, HO4, HM3.out, by rw [HDL.out]; omega, HR3, hb3⟩
        case measure => simp; omega
      · rw [if_neg hcg, Option.map_some, Addr.add_lit] at hcut
        have HC := Lib.hid hcut
        clear hcut
        go_wp2_with fail
        go_roundw
        case rel => exact ⟨some ⟨b, o + gn, none⟩, D3, c' - gn, m + 1, c3, rest.drop gn, pre ++ [(gr, gn)], by rw [HDL.out], rfl, by rw [HDL.out]; omega, by omega, HC, HO4, HM3.out, by rw [HDL.out]; omega, HR3, hb3⟩
        case measure => simp; omega
    · have hre : rest = [] := List.eq_nil_of_length_eq_zero (by omega)
      subst hre
      have hd : decide ((0 : Int) < ((([] : List UInt8).length : Nat) : Int)) = false := by simp
      have hR2 := HR.out
      rw [allU_nil, List.append_nil] at hR2
      have HFin : Hid (AllEnds w bs (.returned (.slice D m cD)) wr) := (show AllEnds _ _ _ _ from ⟨D, m, cD, rfl, by rw [← hR2]; exact HM.out, by omega, by rw [← hR2]; exact HO.out, hB⟩)
      clear HR hR2 HO HS hB
      go_wp2_with fail
      go_ret
      exact HFin.out
end Go.Proofs.Ytepmnhlfjidhjaa
