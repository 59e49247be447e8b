/-
  The contract of class.Make.
-/
import Derived.Test.YtepmnhlfjidhjabClassSort
namespace Go.Proofs.Ytepmnhlfjidhjab
open Go.RowKit Go.Mem

/-- what Make tells of ranges: a list of the call's own -/
def MadeEnds (w0 : World) (B : Nat) (l : List (Int × Int)) (e : Ending) (w' : World) : Prop := ∃ c, Cls.Made l c ∧ c.length ≤ 2 * l.length ∧ RangesEnd w0 B c e w'
theorem parts_snoc (l : List (Int × Int)) (g : Int × Int) : Cls.parts (l ++ [g]) = (Cls.parts l ++ Cls.part g 0 55295) ++ Cls.part g 57344 1114111 := by simp [Cls.parts]
theorem part_len (g : Int × Int) (lo hi : Int) : (Cls.part g lo hi).length ≤ 1 := by
  unfold Cls.part
  split <;> simp

theorem parts_in {l : List (Int × Int)} {g : Int × Int} (h : g ∈ Cls.parts l) : (0 ≤ g.1 ∧ g.1 ≤ 1114111) ∧ 0 ≤ g.2 ∧ g.2 ≤ 1114111 := by
  obtain ⟨f, _, hf⟩ := List.mem_flatMap.1 h
  rcases List.mem_append.1 hf with h | h
  all_goals
    unfold Cls.part at h
    split at h
    · obtain rfl := List.mem_singleton.1 h
      simp only
      omega
    · cases h
/-- one pass: what is joined so far -/
def InvJ (s : List (Int × Int)) (i : Nat) (acc : List (Int × Int)) : Prop := (i = 0 ∧ acc = []) ∨ ∃ init z, acc = init ++ [z] ∧ 0 < i ∧ Cls.join s = init ++ Cls.joinZ z (s.drop i) ∧ 0 ≤ z.2 ∧ z.2 ≤ 1114111
theorem InvJ.end_ {s acc : List (Int × Int)} {i : Nat} (h : InvJ s i acc) (hi : i = s.length) : Cls.join s = acc := by
  rcases h with ⟨h1, h2⟩ | ⟨init, z, h1, _, h2, _⟩
  · have : s = [] := List.eq_nil_of_length_eq_zero (by omega)
    rw [this, h2]; rfl
  · rw [h2, h1, List.drop_eq_nil_of_le (by omega)]; rfl
theorem InvJ.first {s : List (Int × Int)} {g : Int × Int} (hk : s[0]? = some g) (hg : 0 ≤ g.2 ∧ g.2 ≤ 1114111) : InvJ s 1 [g] := by
  cases s with
  | nil => simp at hk
  | cons f t =>
    simp at hk
    subst hk
    exact .inr ⟨[], f, rfl, by omega, rfl, hg⟩
theorem InvJ.join_ {s init : List (Int × Int)} {i : Nat} {z g : Int × Int} (hj : Cls.join s = init ++ Cls.joinZ z (s.drop i)) (hk : s[i]? = some g) (hz : 0 ≤ z.2 ∧ z.2 ≤ 1114111) (hg : 0 ≤ g.2 ∧ g.2 ≤ 1114111) (hle : g.1 ≤ z.2 + 1) : InvJ s (i + 1) (init ++ [(z.1, max z.2 g.2)]) := by
  have hd : s.drop i = g :: s.drop (i + 1) := by
    have := List.getElem?_eq_some_iff.1 hk
    obtain ⟨h1, h2⟩ := this
    rw [List.drop_eq_getElem_cons h1, h2]
  refine .inr ⟨init, _, rfl, by omega, ?_, by simp only; omega, by simp only; omega⟩
  rw [hj, hd]
  show _ ++ (if g.1 ≤ z.2 + 1 then _ else _) = _
  rw [if_pos hle]
theorem InvJ.next {s init : List (Int × Int)} {i : Nat} {z g : Int × Int} (hj : Cls.join s = init ++ Cls.joinZ z (s.drop i)) (hk : s[i]? = some g) (hg : 0 ≤ g.2 ∧ g.2 ≤ 1114111) (hle : ¬ g.1 ≤ z.2 + 1) : InvJ s (i + 1) ((init ++ [z]) ++ [g]) := by
  have hd : s.drop i = g :: s.drop (i + 1) := by
    have := List.getElem?_eq_some_iff.1 hk
    obtain ⟨h1, h2⟩ := this
    rw [List.drop_eq_getElem_cons h1, h2]
  refine .inr ⟨init ++ [z], _, rfl, by omega, ?_, hg⟩
  rw [hj, hd, List.append_assoc]
  show _ ++ (if g.1 ≤ z.2 + 1 then _ else _) = _
  rw [if_neg hle]
  rfl
theorem flatR_set (init : List (Int × Int)) (z : Int × Int) (v : Int) (sp : List Value) : (flatR (init ++ [z]) ++ sp).set (init.length * 2 + 1) (.int .i32 v) = flatR (init ++ [(z.1, v)]) ++ sp := by
  have h : (flatR init).length = init.length * 2 := flatR_length init
  rw [flatR_app, flatR_app, List.append_assoc, List.append_assoc, List.set_append_right _ _ (by omega), h, Nat.add_sub_cancel_left]
  rfl
set_option maxRecDepth 100000 in
set_option maxHeartbeats 3200000 in
theorem make_calls (l : List (Int × Int)) (A : Option Addr) (n c : Nat) (w : World) (hl : l.length = n) (hn : n ≤ 1000000) (hi32 : In32 l) (hs : Sl w A (flatR l)) :
    Calls Try.prog 30 #[.slice A n c] w (MadeEnds w w.heap.size l) := by
  obtain ⟨ir, hir, hzr0, hzr1, hzr2⟩ := info_parts infoR
  have HS := Lib.hid hs
  have HI := Lib.hid hi32
  have HL := Lib.hid hl
  clear hs hi32 hl
  go_enter Try.func30, Try.ntmps30
  go_wp2_with fail
  go_loopw [3, 5, 12] (fun s3 _ s12 wr => ∃ (D : Option Addr) (k cD i : Nat), s3 = .slice D k cD ∧ s12 = .int .i64 i ∧ i ≤ n ∧ k ≤ 2 * i ∧ Hid ((Cls.parts (l.take i)).length = k) ∧ Hid (OwnB wr w.heap.size 61 2 D k cD (flatR (Cls.parts (l.take i)))) ∧ Below w.heap.size w wr) (fun _ _ s _ => n - (intOf s).toNat)
  case atStart => exact ⟨none, 0, 0, 0, rfl, rfl, Nat.zero_le _, Nat.zero_le _, (show _ = _ from rfl), (show OwnB _ _ _ _ _ _ _ _ from OwnB.nil _ _ _ _), Below.refl _ _⟩
  case round =>
    obtain ⟨D, k, cD, i, rfl, rfl, hin, hki, HK, HO, hB⟩ := hrel
    have i0 : (0 : Int) ≤ (i : Int) := by omega
    by_cases hlt : i < n
    · have hil : i < l.length := by rw [HL.out]; exact hlt
      have hk0 : l[i]? = some l[i] := List.getElem?_eq_getElem hil
      have hg := HI.out _ (List.getElem_mem hil)
      have htk : l.take (i + 1) = l.take i ++ [l[i]] := List.take_succ_eq_append_getElem hil
      generalize l[i] = g at hk0 hg htk
      obtain ⟨b, o, rfl, x1, x2⟩ := Sl.range (HS.out.below hB) hk0
      have HTK : Hid (Cls.parts (l.take (i + 1)) = (Cls.parts (l.take i) ++ Cls.part g 0 55295) ++ Cls.part g 57344 1114111) := (show _ = _ by rw [htk, parts_snoc])
      have hp1 := part_len g 0 55295
      have hp2 := part_len g 57344 1114111
      have i1 : (i : Int) < (n : Int) := by omega
      clear hk0 htk hil
      have hBs := hB.size
      have hb1 := hB.alloc hBs (.cells #[.int .i32 g.1, .int .i32 g.2] 61)
      have HG1 := Lib.hid (Blk.new wr 61 #[.int .i32 g.1, .int .i32 g.2])
      have hne0 : D ≠ some ⟨wr.heap.size, 0, none⟩ := fun h => by
        rcases HO.out.2.2 with ⟨h3, _⟩ | ⟨g3, sp, hd, _, hb3, _⟩
        · rw [h3] at h; cases h
        · rw [hd] at h
          obtain rfl : g3 = wr.heap.size := by injection h with h; injection h
          exact Nat.lt_irrefl _ hb3.lt
      have HC1 := Lib.hid (appendRunes_calls w.heap.size D k cD (Cls.parts (l.take i)) g 0 55295 w (wr.alloc (.cells #[.int .i32 g.1, .int .i32 g.2] 61)) hg HK.out (HO.out.alloc _) (by omega) hb1 (by simp; omega))
      unfold RangesKeep at HC1
      have HNE := Lib.hid hne0
      have HGB := Lib.hid hg
      obtain ⟨k1, hk1⟩ : ∃ k1, (Cls.parts (l.take i) ++ Cls.part g 0 55295).length = k1 := ⟨_, rfl⟩
      have hk1l : k1 ≤ 2 * i + 1 := by rw [← hk1, List.length_append, HK.out]; omega
      obtain ⟨k2, hk2⟩ : ∃ k2, (Cls.parts (l.take (i + 1))).length = k2 := ⟨_, rfl⟩
      have hk2l : k2 ≤ 2 * (i + 1) := by rw [← hk2, HTK.out, List.length_append, hk1]; omega
      generalize Cls.parts (l.take i) ++ Cls.part g 0 55295 = P1 at HC1 HTK hk1
      have HK2 : Hid ((Cls.parts (l.take (i + 1))).length = k2) := (show _ = _ from hk2)
      rw [hk1] at HC1
      have HK1 := Lib.hid hk1
      clear hb1 hne0 HO hg hk1 hk2 hp1 hp2
      go_wp2_with fail
      refine HC1.out.mono ?_
      rintro e w1 ⟨D1, c1, rfl, o1, b1, kp1, dd1, sz1⟩
      have HG2 : Hid (Blk w1 wr.heap.size 61 [.int .i32 g.1, .int .i32 g.2]) := (show Blk _ _ _ _ from (kp1 _ (by simp) HNE.out).trans HG1.out)
      have HC2 := Lib.hid (appendRunes_calls w.heap.size D1 k1 c1 P1 g 57344 1114111 w w1 HGB.out HK1.out o1 (by omega) b1 b1.size)
      unfold RangesKeep at HC2
      have y1 := HG2.out.cell 0
      have y2 := HG2.out.cell 1
      simp only [List.getElem?_cons_zero, List.getElem?_cons_succ] at y1 y2
      rw [← HTK.out, HK2.out] at HC2
      generalize wr.heap.size = gs at *
      generalize g.1 = ga at *
      generalize g.2 = gb at *
      clear o1 b1 kp1 dd1 sz1 HC1 HG1 x1 x2 HNE HK1 HTK
      go_wp2_with fail
      refine HC2.out.mono ?_
      rintro e w2 ⟨D2, c2, rfl, o2, b2, _, _, _⟩
      have HO2 := Lib.hid o2
      have i2 : i + 1 ≤ n := hlt
      clear o2 HC2 y1 y2 HG2
      go_wp2_with fail
      go_roundw
      case rel => exact ⟨D2, k2, c2, i + 1, rfl, by go_num, i2, hk2l, HK2, HO2, b2⟩
      case measure => simp [intOf]; omega
    · obtain rfl : i = n := by omega
      have htn : l.take i = l := List.take_of_length_le (by rw [HL.out]; exact Nat.le_refl _)
      rw [htn] at HK HO
      have HSO := Lib.hid (sort_calls (Cls.parts l) D k cD w.heap.size wr HK.out (by omega) HO.out)
      unfold SortEnds at HSO
      have HPI : Hid (∀ g ∈ Cls.parts l, (0 ≤ g.1 ∧ g.1 ≤ 1114111) ∧ 0 ≤ g.2 ∧ g.2 ≤ 1114111) := (show ∀ _ ∈ _, _ from fun g hg => parts_in hg)
      clear HO htn
      go_wp2_with fail
      refine HSO.out.mono ?_
      rintro e w2 ⟨rfl, s, hperm, hpw, o2, b2, sz2⟩
      have hin : ∀ g ∈ s, (0 ≤ g.1 ∧ g.1 ≤ 1114111) ∧ 0 ≤ g.2 ∧ g.2 ≤ 1114111 := fun g hg => HPI.out g (hperm.mem_iff.1 hg)
      have HM : Hid (Cls.Made l (Cls.join s)) := (show Cls.Made _ _ from Cls.Made.join hperm (srt_of hpw (fun g hg => (hin g hg).1.1)))
      have HIN := Lib.hid hin
      have HSL := Lib.hid o2.sl
      have hsk : s.length = k := by rw [hperm.length_eq]; exact HK.out
      have HSK := Lib.hid hsk
      have B2 := hB.trans b2
      clear hin hperm hpw o2 b2 HSO HPI hsk HK hB
      go_wp2_with fail
      go_loopw [6, 8, 9, 27] (fun s6 _ _ s27 wx => ∃ (D6 : Option Addr) (m c6 j : Nat) (acc : List (Int × Int)), s6 = .slice D6 m c6 ∧ s27 = .int .i64 j ∧ j ≤ k ∧ m ≤ j ∧ Hid (acc.length = m) ∧ Hid (OwnB wx w2.heap.size 61 2 D6 m c6 (flatR acc)) ∧ Hid (InvJ s j acc) ∧ Below w2.heap.size w2 wx) (fun _ _ _ s _ => k - (intOf s).toNat)
      case atStart => exact ⟨none, 0, 0, 0, [], rfl, rfl, Nat.zero_le _, Nat.le_refl _, (show _ = _ from rfl), (show OwnB _ _ _ _ _ _ _ _ from OwnB.nil _ _ _ _), (show InvJ _ _ _ from .inl ⟨rfl, rfl⟩), Below.refl _ _⟩
      case round =>
        obtain ⟨D6, m, c6, j, acc, rfl, rfl, hjk, hmj, HA, HO6, HJ, hB3⟩ := hrel
        have j0 : (0 : Int) ≤ (j : Int) := by omega
        by_cases hlt2 : j < k
        · have hjl : j < s.length := by rw [HSK.out]; exact hlt2
          have hk0 : s[j]? = some s[j] := List.getElem?_eq_getElem hjl
          have hg := HIN.out _ (List.getElem_mem hjl)
          generalize s[j] = g at hk0 hg
          obtain ⟨b, o, rfl, x1, x2⟩ := Sl.range (HSL.out.below hB3) hk0
          obtain ⟨g1, g2⟩ := g
          simp only at hg x1 x2
          have HK0 := Lib.hid hk0
          have j1 : (j : Int) < (k : Int) := by omega
          rcases HJ.out with ⟨hj0, hacc⟩ | ⟨init, z, hacc, hj0, hj, hz⟩
          · subst hacc
            obtain rfl : m = 0 := by have := HA.out; simp at this; omega
            obtain rfl : j = 0 := hj0
            simp only [Nat.zero_mul, Nat.add_zero] at x1 x2
            have HJ2 : Hid (InvJ s (0 + 1) ([] ++ [(g1, g2)])) := (show InvJ _ _ _ from InvJ.first HK0.out hg.2)
            have HX : Hid (∀ q, OwnB ((((wr.alloc (.cells #[.int .i32 g1, .int .i32 g2] 61)).drewN q)).alloc (.cells #[.int .i32 g1, .int .i32 g2] 61)) w2.heap.size 61 2 D6 0 c6 (flatR [])) := (show ∀ _, _ from fun q => ((HO6.out.alloc _).drewN q).alloc _)
            have HR : Hid (∀ q, Src Try.prog 2 58 (.slice (some ⟨wr.heap.size + 1, 0, none⟩) 1 1) 1 (flatR [(g1, g2)]) ((((wr.alloc (.cells #[.int .i32 g1, .int .i32 g2] 61)).drewN q)).alloc (.cells #[.int .i32 g1, .int .i32 g2] 61))) := (show ∀ _, _ from fun q => srcR (Sl.new (by simp) rfl) rfl)
            have hb1 := hB3.alloc hB3.size (.cells #[.int .i32 g1, .int .i32 g2] 61)
            have HBX : Hid (∀ q, Below w2.heap.size w2 ((((wr.alloc (.cells #[.int .i32 g1, .int .i32 g2] 61)).drewN q)).alloc (.cells #[.int .i32 g1, .int .i32 g2] 61))) := (show ∀ _, _ from fun q => (below_drewN hb1 q).alloc (below_drewN hb1 q).size _)
            have hsz0 := hB3.size
            clear hk0 hjl hg HO6 hB3 hb1 HA HJ
            go_wp2_with fail
            go_quiet (fail)
            go_wp2_with (at_builtin; refine wpList_append_ownK (o := ⟨some 62, _, _, _, _, _⟩) rfl (.tmp 59) (.tmp 61) 58 58 rfl 61 ir (.agg #[.int .i32 0, Value.int .i32 0]) 2 8 Try.underlying58 hir hzr0 hzr1 hzr2 rfl w2.heap.size D6 0 c6 (flatR []) rfl (HX.out _) (.slice (some ⟨wr.heap.size + 1, 0, none⟩) 1 1) rfl 1 (flatR [(g1, g2)]) (HR.out _) (by omega) (by omega) w2 (HBX.out _) (by simp; omega) ?_)
            intro w5 D5 c5 HO5 _ hb5 _
            have HO5' : Hid (OwnB w5 w2.heap.size 61 2 D5 1 c5 (flatR ([] ++ [(g1, g2)]))) := (show OwnB _ _ _ _ _ _ _ _ from HO5.out)
            clear HO5 HX HR HBX
            go_wp2_with fail
            go_roundw
            case rel => exact ⟨D5, 1, c5, 0 + 1, [] ++ [(g1, g2)], rfl, by go_num, by omega, by omega, (show _ = _ from rfl), HO5', HJ2, hb5⟩
            case measure => simp [intOf]; omega
          · subst hacc
            obtain ⟨z1, z2⟩ := z
            simp only at hj hz
            obtain ⟨p, hp⟩ : ∃ p, init.length = p := ⟨_, rfl⟩
            obtain rfl : m = p + 1 := by have := HA.out; rw [List.length_append, hp] at this; exact this.symm
            obtain ⟨g6, sp, rfl, hg6, hb6, hc6⟩ : ∃ g6 sp, D6 = some ⟨g6, 0, none⟩ ∧ w2.heap.size ≤ g6 ∧ Blk wr g6 61 (flatR (init ++ [(z1, z2)]) ++ sp) ∧ (p + 1) * 2 + sp.length = c6 * 2 := by
              rcases HO6.out.2.2 with ⟨_, h, _⟩ | h
              · omega
              · exact h
            have hb6a : Blk (wr.alloc (.cells #[.int .i32 g1, .int .i32 g2] 61)) g6 61 (flatR (init ++ [(z1, z2)]) ++ sp) := (Below.heap_alloc _ _ _ hb6.lt).trans hb6
            have hne6 : g6 ≠ wr.heap.size := by have := hb6.lt; omega
            have x9 := hb6a.cell (p * 2 + 1)
            rw [List.getElem?_append_left (by rw [flatR_length, List.length_append, hp]; simp; omega), (flatR_at (init ++ [(z1, z2)]) p (z1, z2) (by rw [List.getElem?_append_right (by omega), hp, Nat.sub_self]; rfl)).2] at x9
            have f9 := hb6a.frozen (p * 2 + 1)
            have hng := Blk.new wr 61 #[.int .i32 g1, .int .i32 g2]
            have y1 := hng.cell 0
            have y2 := hng.cell 1
            simp only [List.getElem?_cons_zero, List.getElem?_cons_succ] at y1 y2
            have hcp : p + 1 ≤ c6 := HO6.out.le
            have p0 : (0 : Int) ≤ (p : Int) := by omega
            have p1 : (p : Int) < (c6 : Int) := by omega
            have hb1 := hB3.alloc hB3.size (.cells #[.int .i32 g1, .int .i32 g2] 61)
            by_cases hle : g1 ≤ z2 + 1
            · have HJ2 : Hid (InvJ s (j + 1) (init ++ [(z1, max z2 g2)])) := (show InvJ _ _ _ from InvJ.join_ hj HK0.out hz hg.2 hle)
              have HBN : Hid (∀ q, OwnB (((wr.alloc (.cells #[.int .i32 g1, .int .i32 g2] 61)).drewN q).setCell ⟨g6, p * 2 + 1, none⟩ (.int .i32 (max z2 g2))) w2.heap.size 61 2 (some ⟨g6, 0, none⟩) (p + 1) c6 (flatR (init ++ [(z1, max z2 g2)]))) := (show ∀ _, _ from fun q => by
                have h8 := Blk.set_ (show Blk ((wr.alloc (.cells #[.int .i32 g1, .int .i32 g2] 61)).drewN q) g6 61 (flatR (init ++ [(z1, z2)]) ++ sp) from hb6a) (p * 2 + 1) (.int .i32 (max z2 g2))
                rw [← hp, flatR_set] at h8
                exact ⟨by rw [flatR_length, List.length_append, hp]; rfl, hcp, .inr ⟨g6, sp, rfl, hg6, by rw [← hp]; exact h8, hc6⟩⟩)
              have HBL : Hid (∀ q, Below w2.heap.size w2 (((wr.alloc (.cells #[.int .i32 g1, .int .i32 g2] 61)).drewN q).setCell ⟨g6, p * 2 + 1, none⟩ (.int .i32 (max z2 g2)))) := (show ∀ _, _ from fun q => (below_drewN hb1 q).setCell (p := ⟨g6, p * 2 + 1, none⟩) (by show w2.heap.size ≤ g6; omega) _)
              have HLA : Hid ((init ++ [(z1, max z2 g2)]).length = p + 1) := (show _ = _ by rw [List.length_append, hp]; rfl)
              have j2 : j + 1 ≤ k := hlt2
              have m2 : p + 1 ≤ j + 1 := by omega
              have hb30 : -2147483648 ≤ z2 + 1 ∧ z2 + 1 ≤ 2147483647 := by omega
              have e32 : IntKind.i32.wrap (z2 + 1) = z2 + 1 := IntWalk.i32_in _ hb30
              clear hk0 hjl hg HO6 hB3 hb1 HA HJ hj hz hp hb6 hb6a hng hb30 hc6 HK0 hj0
              go_wp2_with fail
              go_quiet (fail)
              go_wp2_with fail
              go_region
              go_wp2_with fail
              go_roundw
              case rel => exact ⟨some ⟨g6, 0, none⟩, p + 1, c6, j + 1, _, rfl, by go_num, j2, m2, HLA, HBN.out _, HJ2, HBL.out _⟩
              case measure => simp [intOf]; omega
            · have HJ2 : Hid (InvJ s (j + 1) ((init ++ [(z1, z2)]) ++ [(g1, g2)])) := (show InvJ _ _ _ from InvJ.next hj HK0.out hg.2 hle)
              have HX : Hid (∀ q, OwnB ((((wr.alloc (.cells #[.int .i32 g1, .int .i32 g2] 61)).drewN q)).alloc (.cells #[.int .i32 g1, .int .i32 g2] 61)) w2.heap.size 61 2 (some ⟨g6, 0, none⟩) (p + 1) c6 (flatR (init ++ [(z1, z2)]))) := (show ∀ _, _ from fun q => ((HO6.out.alloc _).drewN q).alloc _)
              have HR : Hid (∀ q, Src Try.prog 2 58 (.slice (some ⟨wr.heap.size + 1, 0, none⟩) 1 1) 1 (flatR [(g1, g2)]) ((((wr.alloc (.cells #[.int .i32 g1, .int .i32 g2] 61)).drewN q)).alloc (.cells #[.int .i32 g1, .int .i32 g2] 61))) := (show ∀ _, _ from fun q => srcR (Sl.new (by simp) rfl) rfl)
              have HBX : Hid (∀ q, Below w2.heap.size w2 ((((wr.alloc (.cells #[.int .i32 g1, .int .i32 g2] 61)).drewN q)).alloc (.cells #[.int .i32 g1, .int .i32 g2] 61))) := (show ∀ _, _ from fun q => (below_drewN hb1 q).alloc (below_drewN hb1 q).size _)
              have HLA : Hid (((init ++ [(z1, z2)]) ++ [(g1, g2)]).length = p + 1 + 1) := (show _ = _ by rw [List.length_append, List.length_append, hp]; rfl)
              have hsz0 := hB3.size
              have j2 : j + 1 ≤ k := hlt2
              have m2 : p + 1 + 1 ≤ j + 1 := by omega
              have hpk : p + 1 ≤ 100000000 := by omega
              have hb30 : -2147483648 ≤ z2 + 1 ∧ z2 + 1 ≤ 2147483647 := by omega
              have hdl : decide (g1 ≤ z2 + 1) = false := decide_eq_false hle
              have e32 : IntKind.i32.wrap (z2 + 1) = z2 + 1 := IntWalk.i32_in _ hb30
              clear hk0 hjl hg HO6 hB3 hb1 HA HJ hj hz hp hb6 hb6a hng hb30 hc6 HK0 hj0
              go_wp2_with fail
              go_quiet (fail)
              go_wp2_with (at_builtin; refine wpList_append_ownK (o := ⟨some 62, _, _, _, _, _⟩) rfl (.tmp 59) (.tmp 61) 58 58 rfl 61 ir (.agg #[.int .i32 0, Value.int .i32 0]) 2 8 Try.underlying58 hir hzr0 hzr1 hzr2 rfl w2.heap.size (some ⟨g6, 0, none⟩) (p + 1) c6 (flatR (init ++ [(z1, z2)])) rfl (HX.out _) (.slice (some ⟨wr.heap.size + 1, 0, none⟩) 1 1) rfl 1 (flatR [(g1, g2)]) (HR.out _) (by clear e32; omega) (by clear e32; omega) w2 (HBX.out _) (by clear e32; simp; omega) ?_)
              intro w5 D5 c5 HO5 _ hb5 _
              have HO5' : Hid (OwnB w5 w2.heap.size 61 2 D5 (p + 1 + 1) c5 (flatR ((init ++ [(z1, z2)]) ++ [(g1, g2)]))) := (show OwnB _ _ _ _ _ _ _ _ from by rw [flatR_app]; exact HO5.out)
              clear HO5 HX HR HBX e32
              go_wp2_with fail
              go_roundw
              case rel => exact ⟨D5, p + 1 + 1, c5, j + 1, _, rfl, by go_num, j2, m2, HLA, HO5', HJ2, hb5⟩
              case measure => simp [intOf]; omega
        · have hfin := HJ.out.end_ (by rw [HSK.out]; omega)
          have HFin : Hid (MadeEnds w w.heap.size l (.returned (.slice D6 m c6)) wr) := (show MadeEnds _ _ _ _ _ from ⟨acc, by rw [← hfin]; exact HM.out, by rw [HA.out, HL.out]; omega, D6, c6, by rw [HA.out], by rw [HA.out]; exact HO6.out.mono B2.size, B2.trans (hB3.mono B2.size)⟩)
          clear hfin HA HO6 HJ hB3 B2 HM
          go_wp2_with fail
          go_ret
          exact HFin.out
end Go.Proofs.Ytepmnhlfjidhjab
