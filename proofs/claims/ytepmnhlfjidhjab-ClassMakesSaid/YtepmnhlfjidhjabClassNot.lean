/-
  The contracts of class.Not and class.Both.
-/
import Derived.Test.YtepmnhlfjidhjabClassMake
namespace Go.Proofs.Ytepmnhlfjidhjab
open Go.RowKit Go.Mem

/-- what Not tells of ranges -/
def NotEnds (w0 : World) (B : Nat) (l : List (Int × Int)) (e : Ending) (w' : World) : Prop := ∃ c d, Cls.Made l c ∧ Cls.Made (Cls.gaps 0 c) d ∧ d.length ≤ 4 * l.length + 2 ∧ RangesEnd w0 B d e w'
theorem gaps_length : ∀ (c : List (Int × Int)) (n : Int), (Cls.gaps n c).length = c.length + 1 := by
  intro c
  induction c with
  | nil => intro n; rfl
  | cons g c ih => intro n; show (_ :: Cls.gaps (g.2 + 1) c).length = _; rw [List.length_cons, ih, List.length_cons]
theorem gaps_in : ∀ (c : List (Int × Int)) (n : Int), (0 ≤ n ∧ n ≤ 1114112) → (∀ g ∈ c, (0 ≤ g.1 ∧ g.1 ≤ 1114111) ∧ 0 ≤ g.2 ∧ g.2 ≤ 1114111) → In32 (Cls.gaps n c) := by
  intro c
  induction c with
  | nil =>
    intro n hn _ g hg
    obtain rfl := List.mem_singleton.1 (show g ∈ [(n, (1114111 : Int))] from hg)
    simp only
    omega
  | cons f c ih =>
    intro n hn hc g hg
    have hf := hc f List.mem_cons_self
    rcases List.mem_cons.1 (show g ∈ (n, f.1 - 1) :: Cls.gaps (f.2 + 1) c from hg) with rfl | hg
    · simp only
      omega
    · exact ih (f.2 + 1) (by omega) (fun x hx => hc x (List.mem_cons_of_mem _ hx)) g hg

set_option maxRecDepth 100000 in
set_option maxHeartbeats 3200000 in
theorem not_calls (l : List (Int × Int)) (A : Option Addr) (n c : Nat) (w : World) (hl : l.length = n) (hn : n ≤ 100000) (hi32 : In32 l) (hs : Sl w A (flatR l)) :
    Calls Try.prog 32 #[.slice A n c] w (NotEnds w w.heap.size l) := by
  obtain ⟨ir, hir, hzr0, hzr1, hzr2⟩ := info_parts infoR
  have HM1 := Lib.hid (make_calls l A n c w hl (by omega) hi32 hs)
  unfold MadeEnds at HM1
  have HL := Lib.hid hl
  clear hs hi32 hl
  go_enter Try.func32, Try.ntmps32
  go_wp2_with fail
  refine HM1.out.mono ?_
  unfold RangesEnd
  rintro e w1 ⟨cs, hmade, hcl, D1, c1, rfl, o1, b1⟩
  rw [HL.out] at hcl
  have hin : ∀ g ∈ cs, (0 ≤ g.1 ∧ g.1 ≤ 1114111) ∧ 0 ≤ g.2 ∧ g.2 ≤ 1114111 := fun g hg => by
    have := hmade.bounds hg
    unfold Cls.Valid at this
    omega
  have HMD := Lib.hid hmade
  have HIN := Lib.hid hin
  have HS1 := Lib.hid o1.sl
  obtain ⟨k, hk⟩ : ∃ k, cs.length = k := ⟨_, rfl⟩
  rw [hk] at hcl ⊢
  have HK := Lib.hid hk
  clear hmade hin o1 hk HM1
  go_wp2_with fail
  go_loopw [3, 4, 6, 10] (fun s3 s4 _ s10 wr => ∃ (D : Option Addr) (m cD i : Nat) (nx : Int) (acc : List (Int × Int)), s3 = .slice D m cD ∧ s4 = .int .i32 nx ∧ s10 = .int .i64 i ∧ i ≤ k ∧ m = i ∧ 0 ≤ nx ∧ nx ≤ 1114112 ∧ Hid (OwnB wr w1.heap.size 61 2 D m cD (flatR acc)) ∧ Hid (Cls.gaps 0 cs = acc ++ Cls.gaps nx (cs.drop i)) ∧ Below w1.heap.size w1 wr) (fun _ _ _ s _ => k - (intOf s).toNat)
  case atStart => exact ⟨none, 0, 0, 0, 0, [], rfl, rfl, rfl, Nat.zero_le _, rfl, by omega, by omega, (show OwnB _ _ _ _ _ _ _ _ from OwnB.nil _ _ _ _), (show _ = _ from rfl), Below.refl _ _⟩
  case round =>
    obtain ⟨D, m, cD, i, nx, acc, rfl, rfl, rfl, hik, rfl, hn0, hn1, HO, HG, hB⟩ := hrel
    have i0 : (0 : Int) ≤ (m : Int) := by omega
    by_cases hlt : m < k
    · have hil : m < cs.length := by rw [HK.out]; exact hlt
      have hk0 : cs[m]? = some cs[m] := List.getElem?_eq_getElem hil
      have hg := HIN.out _ (List.getElem_mem hil)
      have hdr : cs.drop m = cs[m] :: cs.drop (m + 1) := List.drop_eq_getElem_cons hil
      generalize cs[m] = g at hk0 hg hdr
      obtain ⟨b, o, rfl, x1, x2⟩ := Sl.range (HS1.out.below hB) hk0
      obtain ⟨g1, g2⟩ := g
      simp only at hg x1 x2
      have HG2 : Hid (Cls.gaps 0 cs = (acc ++ [(nx, g1 - 1)]) ++ Cls.gaps (g2 + 1) (cs.drop (m + 1))) := (show _ = _ by rw [HG.out, hdr, List.append_assoc]; rfl)
      have HX := Lib.hid ((HO.out.alloc (.cells #[.int .i32 g1, .int .i32 g2] 61)).alloc (.cells #[.int .i32 nx, .int .i32 (g1 - 1)] 61))
      have HR : Hid (Src Try.prog 2 58 (.slice (some ⟨wr.heap.size + 1, 0, none⟩) 1 1) 1 (flatR [(nx, g1 - 1)]) ((wr.alloc (.cells #[.int .i32 g1, .int .i32 g2] 61)).alloc (.cells #[.int .i32 nx, .int .i32 (g1 - 1)] 61))) := (show Src _ _ _ _ _ _ _ from srcR (Sl.new (by simp) rfl) rfl)
      have hb1 := (hB.alloc hB.size (.cells #[.int .i32 g1, .int .i32 g2] 61))
      have hb2 := hb1.alloc hb1.size (.cells #[.int .i32 nx, .int .i32 (g1 - 1)] 61)
      have i1 : (m : Int) < (k : Int) := by omega
      have hfl : (flatR acc).length = m * 2 := HO.out.len
      have hsz0 := hB.size
      have hng := Lib.hid ((Blk.new wr 61 #[.int .i32 g1, .int .i32 g2]).below (w' := (wr.alloc (.cells #[.int .i32 g1, .int .i32 g2] 61)).alloc (.cells #[.int .i32 nx, .int .i32 (g1 - 1)] 61)) ((Below.refl _ _).alloc (Nat.le_refl _) _) (by simp))
      have hne0 : Hid (D ≠ some ⟨wr.heap.size, 0, none⟩) := (show _ ≠ _ from fun h => by
        rcases HO.out.2.2 with ⟨h3, _⟩ | ⟨g3, sp, hd, _, hb3, _⟩
        · rw [h3] at h; cases h
        · rw [hd] at h
          obtain rfl : g3 = wr.heap.size := by injection h with h; injection h
          exact Nat.lt_irrefl _ hb3.lt)
      clear hk0 hdr hil HO HG hb1 hfl
      go_wp2_with (at_builtin; refine wpList_append_ownK (o := ⟨some 21, _, _, _, _, _⟩) rfl (.tmp 14) (.tmp 20) 58 58 rfl 61 ir (.agg #[.int .i32 0, Value.int .i32 0]) 2 8 Try.underlying58 hir hzr0 hzr1 hzr2 rfl w1.heap.size D m cD (flatR acc) rfl HX.out (.slice (some ⟨wr.heap.size + 1, 0, none⟩) 1 1) rfl 1 (flatR [(nx, g1 - 1)]) HR.out (by omega) (by omega) w1 hb2 (by simp; omega) ?_)
      intro w5 D5 c5 HO5 HK5 hb5 _
      have HO5' : Hid (OwnB w5 w1.heap.size 61 2 D5 (m + 1) c5 (flatR (acc ++ [(nx, g1 - 1)]))) := (show OwnB _ _ _ _ _ _ _ _ from by rw [flatR_app]; exact HO5.out)
      have hg5 := HK5.out.blk hng.out hne0.out
      have y2 := hg5.cell 1
      have y1 := hg5.cell 0
      simp only [List.getElem?_cons_zero, List.getElem?_cons_succ] at y1 y2
      clear HO5 HK5 HX HR hng hne0 hg5 x1 x2 hb2
      go_wp2_with fail
      go_roundw
      case rel => exact ⟨D5, m + 1, c5, m + 1, g2 + 1, _, rfl, by go_num, by go_num, hlt, rfl, by omega, by omega, HO5', HG2, hb5⟩
      case measure => simp [intOf]; omega
    · obtain rfl : m = k := by omega
      have hdr : cs.drop m = [] := List.drop_eq_nil_of_le (by rw [HK.out]; exact Nat.le_refl _)
      have HG2 : Hid (Cls.gaps 0 cs = acc ++ [(nx, 1114111)]) := (show _ = _ by rw [HG.out, hdr]; rfl)
      have HI3 := Lib.hid (gaps_in cs 0 (by omega) HIN.out)
      have HLG : Hid ((Cls.gaps 0 cs).length = m + 1) := (show _ = _ by rw [gaps_length, HK.out])
      have HX := Lib.hid (HO.out.alloc (.cells #[.int .i32 nx, .int .i32 1114111] 61))
      have HR : Hid (Src Try.prog 2 58 (.slice (some ⟨wr.heap.size, 0, none⟩) 1 1) 1 (flatR [(nx, 1114111)]) (wr.alloc (.cells #[.int .i32 nx, .int .i32 1114111] 61))) := (show Src _ _ _ _ _ _ _ from srcR (Sl.new rfl rfl) rfl)
      have hb1 := hB.alloc hB.size (.cells #[.int .i32 nx, .int .i32 1114111] 61)
      have hsz0 := hB.size
      clear HO HG hB hdr
      go_wp2_with (at_builtin; refine wpList_append_ownK (o := ⟨some 30, _, _, _, _, _⟩) rfl (.tmp 26) (.tmp 29) 58 58 rfl 61 ir (.agg #[.int .i32 0, Value.int .i32 0]) 2 8 Try.underlying58 hir hzr0 hzr1 hzr2 rfl w1.heap.size D m cD (flatR acc) rfl HX.out (.slice (some ⟨wr.heap.size, 0, none⟩) 1 1) rfl 1 (flatR [(nx, 1114111)]) HR.out (by omega) (by omega) w1 hb1 (by simp; omega) ?_)
      intro w5 D5 c5 HO5 _ hb5 _
      have hs5 : Sl w5 D5 (flatR (Cls.gaps 0 cs)) := by rw [HG2.out, flatR_app]; exact HO5.out.sl
      have HM2 := Lib.hid (make_calls (Cls.gaps 0 cs) D5 (m + 1) c5 w5 HLG.out (by omega) HI3.out hs5)
      unfold MadeEnds RangesEnd at HM2
      have B5 := b1.trans (hb5.mono b1.size)
      clear HX HR hb1 HO5 hs5 hb5
      go_wp2_with fail
      refine HM2.out.mono ?_
      rintro e w6 ⟨d, hd1, hd2, D6, c6, rfl, o6, b6⟩
      have HFin : Hid (NotEnds w w.heap.size l (.returned (.slice D6 d.length c6)) w6) := (show NotEnds _ _ _ _ _ from ⟨cs, d, HMD.out, hd1, by rw [HLG.out] at hd2; rw [HL.out]; omega, D6, c6, rfl, o6.mono B5.size, B5.trans (b6.mono B5.size)⟩)
      clear hd1 hd2 o6 b6 HM2 HG2 HI3 HLG
      go_wp2_with fail
      go_ret
      exact HFin.out
theorem made_in {l c : List (Int × Int)} (h : Cls.Made l c) : In32 c := fun g hg => by
  have := h.bounds hg
  unfold Cls.Valid at this
  omega
theorem in_app {a b : List (Int × Int)} (ha : In32 a) (hb : In32 b) : In32 (a ++ b) := fun g hg => by
  rcases List.mem_append.1 hg with h | h
  · exact ha g h
  · exact hb g h
/-- what Both tells of two lists of ranges -/
def BothEnds (w0 : World) (B : Nat) (a b : List (Int × Int)) (e : Ending) (w' : World) : Prop := ∃ ca da cb db cc d, Cls.Made a ca ∧ Cls.Made (Cls.gaps 0 ca) da ∧ Cls.Made b cb ∧ Cls.Made (Cls.gaps 0 cb) db ∧ Cls.Made (da ++ db) cc ∧ Cls.Made (Cls.gaps 0 cc) d ∧ d.length ≤ 16 * (a.length + b.length) + 18 ∧ RangesEnd w0 B d e w'

set_option maxRecDepth 100000 in
set_option maxHeartbeats 3200000 in
theorem both_calls (a b : List (Int × Int)) (A E : Option Addr) (n m c f : Nat) (w : World) (hl : a.length = n) (hn : n ≤ 10000) (hi : In32 a) (hs : Sl w A (flatR a)) (hl2 : b.length = m) (hm : m ≤ 10000) (hi2 : In32 b) (hs2 : Sl w E (flatR b)) :
    Calls Try.prog 33 #[.slice A n c, .slice E m f] w (BothEnds w w.heap.size a b) := by
  obtain ⟨ir, hir, hzr0, hzr1, hzr2⟩ := info_parts infoR
  have HN1 := Lib.hid (not_calls a A n c w hl (by omega) hi hs)
  unfold NotEnds RangesEnd at HN1
  have HS2 := Lib.hid hs2
  have HI2 := Lib.hid hi2
  have HL := Lib.hid hl
  have HL2 := Lib.hid hl2
  clear hs hs2 hi hi2 hl hl2
  go_enter Try.func33, Try.ntmps33
  go_wp2_with fail
  refine HN1.out.mono ?_
  rintro e w1 ⟨ca, da, ha1, ha2, ha3, D1, c1, rfl, o1, b1⟩
  have HN2 := Lib.hid (not_calls b E m f w1 HL2.out (by omega) HI2.out (HS2.out.below b1))
  unfold NotEnds RangesEnd at HN2
  have HA1 := Lib.hid ha1
  have HA2 := Lib.hid ha2
  have HO1 := Lib.hid o1
  rw [HL.out] at ha3
  clear ha1 ha2 o1 HN1
  go_wp2_with fail
  refine HN2.out.mono ?_
  rintro e w2 ⟨cb, db, hb1, hb2, hb3, D2, c2, rfl, o2, b2⟩
  have HB1 := Lib.hid hb1
  have HB2 := Lib.hid hb2
  rw [HL2.out] at hb3
  have HX := Lib.hid (HO1.out.below b2)
  have HR := Lib.hid (srcR (n := db.length) (c := c2) o2.sl rfl)
  have B2 := b1.trans (b2.mono b1.size)
  have hB2s := B2.size
  obtain ⟨p, hp⟩ : ∃ p, da.length = p := ⟨_, rfl⟩
  obtain ⟨q, hq⟩ : ∃ q, db.length = q := ⟨_, rfl⟩
  rw [hp] at HX ha3 ⊢
  rw [hq] at HR hb3 ⊢
  have HP := Lib.hid hp
  have HQ := Lib.hid hq
  clear hb1 hb2 o2 b1 b2 HO1 HN2 hp hq
  go_wp2_with (at_builtin; refine wpList_append_ownK (o := ⟨some 9, _, _, _, _, _⟩) rfl (.tmp 6) (.tmp 8) 58 58 rfl 61 ir (.agg #[.int .i32 0, Value.int .i32 0]) 2 8 Try.underlying58 hir hzr0 hzr1 hzr2 rfl w.heap.size D1 p c1 (flatR da) rfl HX.out (.slice D2 q c2) rfl q (flatR db) HR.out (by omega) (by omega) w B2 hB2s ?_)
  intro w5 D5 c5 HO5 _ hb5 _
  have hs5 : Sl w5 D5 (flatR (da ++ db)) := by rw [flatR_app]; exact HO5.out.sl
  have HN3 := Lib.hid (not_calls (da ++ db) D5 (p + q) c5 w5 (by rw [List.length_append, HP.out, HQ.out]) (by omega) (in_app (made_in HA2.out) (made_in HB2.out)) hs5)
  unfold NotEnds RangesEnd at HN3
  clear HX HR HO5 hs5 B2
  go_wp2_with fail
  refine HN3.out.mono ?_
  rintro e w6 ⟨cc, d, hd1, hd2, hd3, D6, c6, rfl, o6, b6⟩
  have HFin : Hid (BothEnds w w.heap.size a b (.returned (.slice D6 d.length c6)) w6) := (show BothEnds _ _ _ _ _ _ from ⟨ca, da, cb, db, cc, d, HA1.out, HA2.out, HB1.out, HB2.out, hd1, hd2, by rw [List.length_append, HP.out, HQ.out] at hd3; rw [HL.out, HL2.out]; omega, D6, c6, rfl, o6.mono hb5.size, hb5.trans (b6.mono hb5.size)⟩)
  clear hd1 hd2 hd3 o6 b6 HN3
  go_wp2_with fail
  go_ret
  exact HFin.out
end Go.Proofs.Ytepmnhlfjidhjab
