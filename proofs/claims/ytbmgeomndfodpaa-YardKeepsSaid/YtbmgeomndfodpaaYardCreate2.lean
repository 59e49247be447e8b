/-
  The contract of yard's Create, where a file is made.
-/
import Derived.Test.YtbmgeomndfodpaaYardSet
import Derived.Test.YtbmgeomndfodpaaTabIF2
namespace Go.Proofs.Ytbmgeomndfodpaa
open Go.RowKit Go.Mem Go.Proofs

theorem ins_get {α : Type} (l : List α) (i j : Nat) (x : α) (hi : i ≤ l.length) : (l.take i ++ x :: l.drop i)[j]? = if j < i then l[j]? else if j = i then some x else l[j - 1]? := by
  have hl : (l.take i).length = i := by simp; omega
  rw [List.getElem?_append, hl]
  split
  · next h => rw [List.getElem?_take, if_pos h]
  · next h =>
    split
    · next h2 => subst h2; simp
    · next h2 =>
      obtain ⟨k, hk⟩ : ∃ k, j - i = k + 1 := ⟨j - i - 1, by omega⟩
      rw [hk, List.getElem?_cons_succ, List.getElem?_drop]
      congr 1; omega
theorem Bytes.ins {w : World} {B : Nat} {m : List MF} {vs : List Fl} (h : Bytes w B m vs) (hl : vs.length = m.length) {i : Nat} (hi : i ≤ m.length) (k : Int) (s : ByteArray) : Bytes w B (m.take i ++ ⟨k, s, []⟩ :: m.drop i) (vs.take i ++ ⟨s, none, 0, 0⟩ :: vs.drop i) := by
  refine ⟨fun j f x h1 h2 => ?_, fun j1 j2 f g hne h1 h2 b hb => ?_⟩
  · rw [ins_get _ _ _ _ (by omega)] at h1 h2
    split at h1
    · next hj => rw [if_pos hj] at h2; exact h.own j f x h1 h2
    · next hj =>
      rw [if_neg hj] at h2
      split at h1
      · next hj2 =>
        rw [if_pos hj2] at h2
        injection h1 with h1; injection h2 with h2; subst h1; subst h2
        exact ⟨rfl, rfl, OwnB.nil _ _ _ _⟩
      · next hj2 => rw [if_neg hj2] at h2; exact h.own (j - 1) f x h1 h2
  · rw [ins_get _ _ _ _ (by omega)] at h1 h2
    split at h1
    · next c1 =>
      split at h2
      · exact h.ap j1 j2 f g hne h1 h2 b hb
      · next c2 =>
        split at h2
        · injection h2 with h2; subst h2; simp
        · exact h.ap j1 (j2 - 1) f g (by omega) h1 h2 b hb
    · next c1 =>
      split at h1
      · injection h1 with h1; subst h1; cases hb
      · next c3 =>
        split at h2
        · exact h.ap (j1 - 1) j2 f g (by omega) h1 h2 b hb
        · next c2 =>
          split at h2
          · injection h2 with h2; subst h2; simp
          · exact h.ap (j1 - 1) (j2 - 1) f g (by omega) h1 h2 b hb
theorem Yd.bytes {w : World} {B y : Nat} {m : List MF} {tk : List (Int × Int)} {pF pT : Nat} {DK DV DK2 DV2 : Option Addr} {vs : List Fl} (h : Yd w B y m tk pF pT DK DV DK2 DV2 vs) : Bytes w B m vs := ⟨h.own, h.ap⟩
theorem TEndsIF.val {w w' : World} {B p : Nat} {DK DV : Option Addr} {v : Value} {ks : List Int} {vs : List Fl} {e : Ending} (h : TEndsIF w B p DK DV v ks vs e w') : e = .returned v := h.1
set_option maxRecDepth 100000 in
set_option maxHeartbeats 1600000 in
theorem create_done {w : World} {B y : Nat} {m : List MF} {tk : List (Int × Int)} {pF pT : Nat} {DK DV DK2 DV2 : Option Addr} {vs : List Fl} (h : Yd w B y m tk pF pT DK DV DK2 DV2 vs) (hg : Gd m) (s : ByteArray) (hs : s.size ≤ 9223372036854775807) (hok : createNo s m = 0) (hBw : B ≤ w.heap.size) :
    Calls Try.prog 15 #[.pointer (some ⟨y, 0, none⟩), .string s] w (YEnds w B y (.int .i64 0) (createM s m) tk (FootY pF pT y DK DV DK2 DV2 vs)) := by
  obtain ⟨c1, c2, c3⟩ := createNo_zero hok
  have hm : createM s m = m.take (leadM 1 m) ++ ⟨(leadM 1 m : Int) + 1, s, []⟩ :: m.drop (leadM 1 m) := if_pos hok
  have hg' := hg.create (s := s)
  rw [hm] at hg' ⊢
  have HR := Lib.hid (right_calls s w hs)
  rw [c1] at HR
  have hlen := hg.len
  have HY := Lib.hid h
  have HN := Lib.hid (fun q => (show Yd (w.drewN q) B y m tk pF pT DK DV DK2 DV2 vs from h.below (below_drewN (Below.refl _ _) q)).named_calls (by omega) s)
  rw [c2] at HN
  obtain ⟨f1, f2, f3⟩ := lead_free 1 hg.r (fun x hx => (hg.ino x hx).1)
  have hll := leadM_le 1 m
  have HFR : Hid (∀ W, Yd W B y m tk pF pT DK DV DK2 DV2 vs → Below w.heap.size w W → Calls Try.prog 53 #[.pointer (some ⟨y, 0, none⟩)] (W.drewN 1) fun e w4 => e = .returned (.int .i64 (1 + (leadM 1 m : Int))) ∧ w4.cell? ⟨y, 0, none⟩ = some (.pointer (some ⟨pF, 0, none⟩)) ∧
      Hid (Calls Try.prog 52 #[.pointer (some ⟨pF, 0, none⟩), .int .i64 (1 + (leadM 1 m : Int)), .agg #[.string s, .slice none 0 0]] w4 fun e w5 => Hid (YEnds w B y (.int .i64 0) (m.take (leadM 1 m) ++ ⟨(leadM 1 m : Int) + 1, s, []⟩ :: m.drop (leadM 1 m)) tk (FootY pF pT y DK DV DK2 DV2 vs) (.returned (.int .i64 0)) w5 ∧ e = .returned (.bool true)))) := (show ∀ W, _ from fun W hW hb => by
    have hY1 : Yd (W.drewN 1) B y m tk pF pT DK DV DK2 DV2 vs := hW.below (below_drewN (Below.refl _ _) 1)
    refine (free_calls B y pF pT DK DV (m.map MF.ino) vs _ hY1.b hY1.f (by rw [List.length_map]; omega)).mono ?_
    rintro e w4 ⟨rfl, b4⟩
    have hY := hY1.below b4
    have hB4 : Below w.heap.size w w4 := (below_drewN hb 1).trans (b4.mono hb.size)
    refine ⟨by rw [f1], hY.b.cell 0, (show Calls _ _ _ _ _ from ?_)⟩
    refine (setIF_new B pF DK DV (m.map MF.ino) vs (1 + (leadM 1 m : Int)) ⟨s, none, 0, 0⟩ (leadM 1 m) w4 hY.f hY.rf f2 (by rw [List.length_map]; omega) f3 (Nat.le_trans hBw hB4.size)).mono ?_
    intro e w5 he
    have hev := he.val
    have hk : (m.map MF.ino).take (leadM 1 m) ++ (1 + (leadM 1 m : Int)) :: (m.map MF.ino).drop (leadM 1 m) = (m.take (leadM 1 m) ++ (⟨(leadM 1 m : Int) + 1, s, []⟩ : MF) :: m.drop (leadM 1 m)).map MF.ino := by
      rw [List.map_append, List.map_cons, List.map_take, List.map_drop, show ((leadM 1 m : Int) + 1) = 1 + (leadM 1 m : Int) by omega]
    rw [hk] at he
    obtain ⟨_, DK', DV', hyd, hfp, hbb⟩ := Yd.turned (vs0 := vs) hY.b hY.yB hY.f hY.t hY.rt hY.kk he hg'.r (hY.bytes.ins hY.len hll _ s) (fun f hf g hg _ => by
      rcases List.mem_append.1 hf with hf | hf
      · exact ⟨f, List.mem_of_mem_take hf, hg⟩
      · rcases List.mem_cons.1 hf with rfl | hf
        · cases hg
        · exact ⟨f, List.mem_of_mem_drop hf, hg⟩)
    exact ⟨⟨rfl, _, ⟨_, _, _, _, _, _, _, hyd, rfl⟩, (Fp.of_below hB4 _).trans hfp, (hB4.mono hBw).trans hbb⟩, hev⟩)
  generalize m.take (leadM 1 m) ++ ⟨(leadM 1 m : Int) + 1, s, []⟩ :: m.drop (leadM 1 m) = m' at *
  clear hm f1 f2 f3 hll hg' h hg hok
  generalize leadM 1 m = n at *
  go_enter Try.func15, Try.ntmps15
  go_wp2_with fail
  refine HR.out.mono ?_
  rintro e w1 ⟨rfl, q, rfl⟩
  have HN1 := Lib.hid (HN.out q)
  clear HN HR
  go_wp2_with fail
  refine HN1.out.mono ?_
  rintro e w2 ⟨rfl, h2, b2⟩
  have HL := Lib.hid (lenIF_calls B pF DK DV (m.map MF.ino) vs w2 h2.f)
  rw [List.length_map] at HL
  have c0 := h2.b.cell 0
  simp only [List.getElem?_cons_zero] at c0
  have H2 := Lib.hid h2
  have HB2 := Lib.hid (show Below w.heap.size w w2 from (below_drewN (Below.refl w.heap.size w) q).trans b2)
  clear h2 b2 HN1 hlen
  generalize m.length = ml at *
  have c3' : ¬ (ml : Int) = 12 := by omega
  go_wp2_with fail
  refine HL.out.mono ?_
  rintro e w3 ⟨rfl, rfl⟩
  have HF := Lib.hid (HFR.out w3 H2.out HB2.out)
  have c1 : (w3.drewN 1).cell? ⟨y, 0, none⟩ = some (.pointer (some ⟨pF, 0, none⟩)) := c0
  clear HFR HL HB2 H2 HY c3
  go_upto_region 7 with fail
  go_region_with (first | (go_at_call 53; refine HF.out.mono ?_; rintro e w4 ⟨rfl, c4, HS⟩) | (go_at_call 52; refine HS.out.mono ?_; rintro e w5 HFin; obtain ⟨HF1, rfl⟩ := HFin.out))
  all_goals
    go_wp2_with fail
    go_ret
    exact HF1
end Go.Proofs.Ytbmgeomndfodpaa
