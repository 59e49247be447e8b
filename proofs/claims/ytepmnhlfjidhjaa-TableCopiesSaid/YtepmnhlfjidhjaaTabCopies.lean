/-
  TableCopies, its walk.
-/
import Derived.Test.YtepmnhlfjidhjaaTabCopy
import Derived.Test.YtepmnhlfjidhjaaTabRises
import Derived.Test.YtepmnhlfjidhjaaSameI
import Derived.Deep.CutBlock
namespace Go.Proofs.Ytepmnhlfjidhjaa
open Go.RowKit Go.Mem Go.Proofs Go.Law

theorem infoI : (Try.prog.info? 3).map (fun i => (i.zero, i.size, i.bytes)) = some (some (.int .i64 0), 1, 8) := by kernel_rfl
theorem same_own {w : World} {A D : Option Addr} {n c1 c2 : Nat} {xs : List Int} (hl : xs.length = n) (hn : n ≤ 9223372036854775807) (hA : Sl w A (xs.map (Value.int .i64))) (hB : Sl w D (xs.map (Value.int .i64))) :
    Calls Try.prog 79 #[.slice A n c1, .slice D n c2] w fun e w' => e = .returned (.bool true) ∧ ∃ q, w' = w.drewN q := by
  have h := sameI_calls A D n n c1 c2 xs xs w hl hl hn hn hA hB
  rw [eqL_self] at h
  exact h

theorem _root_.Go.Mem.OwnB.at_w {w : World} {B : Nat} {e : TypeId} {D : Option Addr} {n c : Nat} {xs : List Value} (h : OwnB w B e 1 D n c xs) {i : Nat} (hi : i < n) : ∃ g v, D = some ⟨g, 0, none⟩ ∧ B ≤ g ∧ w.cell? ⟨g, i, none⟩ = some v ∧ w.frozen? ⟨g, i, none⟩ = false := by
  obtain ⟨h1, h2, h3⟩ := h
  rcases h3 with ⟨_, h4, _⟩ | ⟨g, sp, hd, hg, hb, hc⟩
  · omega
  · have hl : i < xs.length := by omega
    exact ⟨g, xs[i], hd, hg, by rw [hb.cell, List.getElem?_append_left hl, List.getElem?_eq_getElem hl], hb.frozen i⟩
theorem _root_.Go.Mem.OwnB.put {w : World} {B : Nat} {e : TypeId} {g n c : Nat} {xs : List Value} (h : OwnB w B e 1 (some ⟨g, 0, none⟩) n c xs) {i : Nat} (hi : i < n) (u : Value) : OwnB (w.setCell ⟨g, i, none⟩ u) B e 1 (some ⟨g, 0, none⟩) n c (xs.set i u) := by
  obtain ⟨h1, h2, h3⟩ := h
  refine ⟨by rw [List.length_set]; exact h1, h2, ?_⟩
  rcases h3 with ⟨h4, _⟩ | ⟨g', sp, hd, hg, hb, hc⟩
  · cases h4
  · injection hd with hd; injection hd with hd; subst hd
    refine .inr ⟨g, sp, rfl, hg, ?_, hc⟩
    have := hb.set_ i u
    rw [List.set_append_left _ _ (by omega)] at this
    exact this
theorem TbII.mid {w w' : World} {B c p : Nat} {DK DV : Option Addr} {ks vs : List Int} (h : TbII w B p DK DV ks vs) (hc : c ≤ B) (hm : ∀ g, c ≤ g → g < w.heap.size → w'.heap[g]? = w.heap[g]?) : TbII w' B p DK DV ks vs := by
  obtain ⟨a, b, h1, h2⟩ := h
  exact ⟨a, b, h1.keep (hm p (Nat.le_trans hc h1.pB) h1.b.lt) (fun g hg => hm g (Nat.le_trans hc (own_lt h1.k hg).2) (own_lt h1.k hg).1) (fun g hg => hm g (Nat.le_trans hc (own_lt h1.v hg).2) (own_lt h1.v hg).1), h2⟩
/-- a table that is emptied from its front: nothing between c and wd's end turns -/
structure Pop (c : Nat) (w0 wd w : World) (B : Nat) (ks vs : List Int) : Prop where
  t : ∃ DK DV, TbII w B B DK DV ks vs ∧ (∀ g, DK = some ⟨g, 0, none⟩ → g < c ∨ wd.heap.size ≤ g) ∧ (∀ g, DV = some ⟨g, 0, none⟩ → g < c ∨ wd.heap.size ≤ g)
  mid : ∀ g, c ≤ g → g < wd.heap.size → w.heap[g]? = wd.heap[g]?
  sz : wd.heap.size ≤ w.heap.size
  lt : B < c
  bel : Below B w0 w
theorem Pop.drewN {c : Nat} {w0 wd w : World} {B : Nat} {ks vs : List Int} (h : Pop c w0 wd w B ks vs) (q : Nat) : Pop c w0 wd (w.drewN q) B ks vs := by
  obtain ⟨⟨DK, DV, h1, h2⟩, h3, h4, h5, h6⟩ := h
  exact ⟨⟨DK, DV, h1.drewN q, h2⟩, h3, h4, h5, below_drewN h6 q⟩
def PopEnds (c : Nat) (w0 wd : World) (B : Nat) (ks vs : List Int) (e : Ending) (w' : World) : Prop := e = .returned (.bool true) ∧ Pop c w0 wd w' B ks vs
theorem Pop.del {c : Nat} {w0 wd w : World} {B j : Nat} {k : Int} {ks vs : List Int} (h : Pop c w0 wd w B (ks.drop j) (vs.drop j)) (hr : Tab.Rising ltI ks) (hk : ks[j]? = some k) (hn : ks.length ≤ 100) :
    Calls Try.prog 66 #[.pointer (some ⟨B, 0, none⟩), (Value.int .i64) k] w (PopEnds c w0 wd B (ks.drop (j + 1)) (vs.drop (j + 1))) := by
  obtain ⟨⟨DK, DV, h1, h2, h2'⟩, h3, h4, h5, h6⟩ := h
  have hr' : Tab.Rising ltI (ks.drop j) := List.Pairwise.sublist (List.drop_sublist _ _) hr
  have hk' : (ks.drop j)[0]? = some k := by rw [List.getElem?_drop]; exact hk
  refine (delII_yes B B DK DV _ _ k 0 w h1 hr' (Tab.At.self ordI hr' hk') (by rw [List.length_drop]; omega) hk' (by obtain ⟨_, _, t0, _⟩ := h1; exact Nat.le_of_lt t0.b.lt)).mono ?_
  unfold TEndsII
  rintro e w' ⟨rfl, D', V', t, kp, nk, nv, b⟩
  simp only [List.take_zero, List.nil_append, List.drop_drop, Nat.zero_add] at t
  have hs : w.heap.size ≤ w'.heap.size := b.size
  have nw : ∀ {D D' : Option Addr}, Nw w D D' → (∀ g, D = some ⟨g, 0, none⟩ → g < c ∨ wd.heap.size ≤ g) → ∀ g, D' = some ⟨g, 0, none⟩ → g < c ∨ wd.heap.size ≤ g := by
    intro D D' n hd g hg
    rcases n with rfl | ⟨g', h7, h8⟩
    · exact hd g hg
    · rw [hg] at h7; injection h7 with h7; injection h7 with h7; subst h7; omega
  refine ⟨rfl, ⟨D', V', t, nw nk h2, nw nv h2'⟩, fun g h7 h8 => ?_, by omega, h5, h6.trans b⟩
  refine (kp g (by omega) (by omega) (fun e => ?_) (fun e => ?_)).trans (h3 g h7 h8)
  · have := h2 g e; omega
  · have := h2' g e; omega
theorem Pop.get {c : Nat} {w0 wd w : World} {B j : Nat} {k v : Int} {ks vs : List Int} (h : Pop c w0 wd w B (ks.drop j) (vs.drop j)) (hr : Tab.Rising ltI ks) (hk : ks[j]? = some k) (hv : vs[j]? = some v) (hn : ks.length ≤ 100) :
    Calls Try.prog 69 #[.pointer (some ⟨B, 0, none⟩), (Value.int .i64) k] w fun e w' => e = .returned (.tuple #[.int .i64 v, .bool true]) ∧ ∃ q, w' = w.drewN q := by
  obtain ⟨⟨DK, DV, h1, h2, h2'⟩, h3, h4, h5, h6⟩ := h
  have hr' : Tab.Rising ltI (ks.drop j) := List.Pairwise.sublist (List.drop_sublist _ _) hr
  have hk' : (ks.drop j)[0]? = some k := by rw [List.getElem?_drop]; exact hk
  have hg := getII_calls B B DK DV _ _ k 0 w h1 hr' (Tab.At.self ordI hr' hk') (by rw [List.length_drop]; omega)
  rw [if_pos hk', decide_eq_true hk'] at hg
  have : (vs.drop j).getD 0 0 = v := by rw [List.getD, List.getElem?_drop]; show (vs[j]?).getD 0 = v; rw [hv]; rfl
  rw [this] at hg
  exact hg
theorem get_in {w : World} {B p j : Nat} {DK DV : Option Addr} {k v : Int} {ks vs : List Int} (h : TbII w B p DK DV ks vs) (hr : Tab.Rising ltI ks) (hk : ks[j]? = some k) (hv : vs[j]? = some v) (hn : ks.length ≤ 100) :
    Calls Try.prog 69 #[.pointer (some ⟨p, 0, none⟩), (Value.int .i64) k] w fun e w' => e = .returned (.tuple #[.int .i64 v, .bool true]) ∧ ∃ q, w' = w.drewN q := by
  have hg := getII_calls B p DK DV _ _ k j w h hr (Tab.At.self ordI hr hk) (by omega)
  rw [if_pos hk, decide_eq_true hk] at hg
  have : vs.getD j 0 = v := by rw [List.getD, hv]; rfl
  rw [this] at hg
  exact hg

set_option maxRecDepth 100000 in
set_option maxHeartbeats 12800000 in
theorem tableCopies_calls (A E : Option Addr) (n m cap1 cap2 : Nat) (rs ms : List Ask4) (w : World) (hl : rs.length = n) (hn : n ≤ 9223372036854775807) (hs : RowsAt w A 3 (rs.map Ask4.cells)) (hm : ms.length = m) (hmn : m ≤ 9223372036854775807) (hs2 : RowsAt w E 3 (ms.map Ask4.cells)) :
    Calls Try.prog 13 #[.slice A n cap1, .slice E m cap2] w fun e w' => e = .returned (.bool true) ∧ Below w.heap.size w w' := by
  subst hl hm
  obtain ⟨j0, hj, hy0, hy1, hy2⟩ := info_parts infoI
  have HS := Lib.hid hs
  have HS2 := Lib.hid hs2
  clear hs hs2
  go_enter Try.func13, Try.ntmps13
  go_wp2_with fail
  refine (newII_calls w).mono ?_
  rintro e w1 ⟨rfl, tt, bb⟩
  have HR : Hid (Ri w1 w.heap.size w.heap.size 0 [] []) := (show Ri _ _ _ _ _ _ from ⟨none, none, tt, List.Pairwise.nil, Nat.le_refl _, rfl⟩)
  have B := bb
  clear tt bb
  go_upto_block 0 with fail
  go_cut [6] from 21 to 42 (fun s6 wx => ∃ (ks vs : List Int), Hid (Ri wx w.heap.size w.heap.size 100 ks vs) ∧ Below w.heap.size w wx)
  case first =>
   clear HS2 hj hy0 hy1 hy2
   go_wp2_with fail
   go_loopw [6] (fun s6 wr => ∃ (i : Nat) (ks vs : List Int), i ≤ rs.length ∧ i ≤ 100 ∧ s6 = .int .i64 i ∧ Hid (Ri wr w.heap.size w.heap.size i ks vs) ∧ Below w.heap.size w wr) (fun s _ => 100 - (intOf s).toNat)
   case atStart => exact ⟨0, [], [], Nat.zero_le _, Nat.zero_le _, rfl, HR, B⟩
   case round =>
     clear HR B
     obtain ⟨i, ks, vs, hi, hi2, rfl, HR, B⟩ := hrel
     by_cases hin : i < rs.length ∧ i < 100
     · obtain ⟨hlt, h100⟩ := hin
       have hd3 : decide ((i : Int) < 100) = true := decide_eq_true (by omega)
       have i0 : (0 : Int) ≤ (i : Int) := by omega
       have i1 : (i : Int) < (rs.length : Int) := by omega
       obtain ⟨gz, oz, ez, x0, x1, x2⟩ := three HS.out hlt
       subst ez
       have HX1 := Lib.hid x1
       have HX2 := Lib.hid x2
       replace x1 := keepW B x1
       replace x2 := keepW B x2
       clear x0
       generalize rs[i] = r at *
       obtain ⟨ra, rk, rv⟩ := r
       simp only at x1 x2 HX1 HX2
       have HC : Hid (∀ W : World, Below w.heap.size w W → Ri W w.heap.size w.heap.size i ks vs → Calls Try.prog 67 #[.pointer (some ⟨w.heap.size, 0, none⟩), .int .i64 rk, .int .i64 rv] W (RiEnds W w.heap.size w.heap.size (i + 1))) := (show ∀ W : World, _ from fun W hb hr => set_ri w.heap.size w.heap.size i ks vs rk rv W hr (by omega) hb.size)
       have HRD := Lib.hid (HR.out.drewN 1)
       go_wp2_with fail
       go_region_held3 (fun w' => w'.cell? ⟨gz, oz + i * 3 + 1, none⟩ = some (.int .i64 rk) ∧ w'.cell? ⟨gz, oz + i * 3 + 2, none⟩ = some (.int .i64 rv)) (first | (exact ⟨keepW (B.drew.trans b2) HX1.out, keepW (B.drew.trans b2) HX2.out⟩) | go_keep) (first | (go_at_call 67; refine (HC.out _ (by exact B.drew) (by exact HRD.out)).mono ?_; unfold RiEnds; rintro e w2 ⟨bo, ks2, vs2, rfl, h2, b2⟩))
       have HR2 := Lib.hid h2
       have B2 : Below w.heap.size w w2 := B.drew.trans b2
       clear HC HR B h2 b2 HRD
       go_wp2_with fail
       go_roundw
       case rel => exact ⟨i + 1, ks2, vs2, by omega, by omega, by go_num, HR2, B2⟩
       case measure => simp [intOf]; omega
     · by_cases hlt : i < rs.length
       all_goals
         first
           | (have hd4 : decide ((i : Int) < 100) = false := decide_eq_false (by omega))
           | skip
         clear hin
         go_wp2_with fail
         go_meet
         exact ⟨ks, vs, (show Ri _ _ _ _ _ _ from by obtain ⟨a, b, c, d, e, f⟩ := HR.out; exact ⟨a, b, c, d, by omega, f⟩), B⟩
  case rest =>
        clear HR B HS
        obtain ⟨w3, hnm⟩ : ∃ W, W = wc := ⟨_, rfl⟩
        subst hnm
        obtain ⟨ks, vs, HR, B⟩ := hcut
        obtain ⟨DK, DV, tb, hri, hkl, hkv⟩ := HR.out
        have HC := Lib.hid (keysII_calls w.heap.size w.heap.size DK DV ks vs w3 tb (by omega))
        unfold KeysEndII at HC
        have HT := Lib.hid tb
        have HRI := Lib.hid hri
        have HKV := Lib.hid hkv
        have hkl2 : ks.length ≤ 100 := hkl
        clear tb hri hkv HR hkl
        go_wp2_with fail
        refine HC.out.mono ?_
        rintro e w4 ⟨Dk, ck, rfl, o4, b4⟩
        have HO4 := Lib.hid o4
        have HT4 := Lib.hid (HT.out.below b4)
        have hb4 := Lib.hid b4
        have hlt4 := fun g hg => (own_lt (g := g) o4 hg).1
        have ha := (Below.refl w4.heap.size w4).alloc (Nat.le_refl _) (.cells #[] 3)
        have HX : Hid (OwnB (w4.alloc (.cells #[] 3)) w4.heap.size 3 1 (some ⟨w4.heap.size, 0, none⟩) 0 0 []) := (show OwnB _ _ _ _ _ _ _ _ from OwnB.empty rfl (Nat.le_refl _))
        have HSrc : Hid (Src Try.prog 1 51 (.slice Dk ks.length ck) ks.length (ks.map (Value.int .i64)) (w4.alloc (.cells #[] 3))) := (show Src _ _ _ _ _ _ _ from srcSl Try.underlying51 (by simp) (o4.below ha).sl (oneKII ks))
        clear HC o4 b4
        go_wp2_with (at_builtin; refine wpList_append_ownK (o := ⟨some 47, _, _, _, _, _⟩) rfl (.tmp 45) (.tmp 46) 51 51 rfl 3 j0 (.int .i64 0) 1 8 Try.underlying51 hj hy0 hy1 hy2 rfl w4.heap.size (some ⟨w4.heap.size, 0, none⟩) 0 0 [] rfl HX.out (.slice Dk ks.length ck) rfl ks.length (ks.map (Value.int .i64)) HSrc.out (by omega) (by omega) w4 ha (by simp) ?_)
        intro w6 Dw cw HO6 _ b6 _
        have HW6 : Hid (OwnB w6 w4.heap.size 3 1 Dw ks.length cw (ks.map (Value.int .i64))) := (show OwnB _ _ _ _ _ _ _ _ from HO6.out)
        replace HO4 := Lib.hid (HO4.out.below b6)
        have HT6 := Lib.hid (HT4.out.below b6)
        have HB36 := Lib.hid (stepB hb4.out b6)
        have HLt : Hid (∀ g, Dk = some ⟨g, 0, none⟩ → Dw ≠ some ⟨g, 0, none⟩) := (show ∀ g, _ from fun g h1 h2 => by have := hlt4 g h1; have := (own_lt HO6.out h2).2; omega)
        have HB6 := Lib.hid (stepB B HB36.out)
        have HC := Lib.hid (copyII_calls w.heap.size w.heap.size DK DV ks vs w6 HT6.out (by omega))
        unfold CopyEnds at HC
        have HS6 := Lib.hid (HS2.out.below HB6.out)
        have hs34 : Hid (w3.heap.size ≤ w4.heap.size) := (show _ ≤ _ from hb4.out.size)
        have HB3 := Lib.hid B
        clear HX HSrc ha HT4 hb4 HO6 b6 B HS2
        go_wp2_with fail
        refine HC.out.mono ?_
        rintro e w7 ⟨p7, D7, V7, rfl, t7, b7⟩
        have HT7 := Lib.hid t7
        have HK := Lib.hid (keysII_calls w6.heap.size p7 D7 V7 ks vs w7 t7 (by omega))
        unfold KeysEndII at HK
        clear HC t7
        go_wp2_with fail
        refine HK.out.mono ?_
        rintro e w8 ⟨D8, c8, rfl, o8, b8⟩
        have b68 := stepB b7 b8
        have HSm := Lib.hid (same_own (c1 := c8) (c2 := cw) rfl (by omega) o8.sl (HW6.out.below b68).sl)
        replace HT7 := Lib.hid (HT7.out.below b8)
        clear HK b8 b7 o8
        go_wp2_with fail
        refine HSm.out.mono ?_
        rintro e w9 ⟨rfl, q9, hq9⟩
        have HR9 : Hid (Ri w9 w6.heap.size p7 100 ks vs) := (show Ri _ _ _ _ _ _ from by rw [hq9]; exact ⟨D7, V7, HT7.out.drewN _, HRI.out, hkl2, HKV.out⟩)
        have B9 : Below w6.heap.size w6 w9 := by rw [hq9]; exact below_drewN b68 _
        clear HSm hq9 b68 HT7
        go_upto_block 2 with fail
        go_cut [10] from 59 to 93 (fun s10 wx => Below w6.heap.size w6 wx)
        case first =>
          clear HLt HB36 HB6 HT6 HW6 HO4 HRI HKV
          go_wp2_with fail
          go_loopw [10] (fun s10 wq => ∃ (j : Nat) (ks2 vs2 : List Int), j ≤ ms.length ∧ j ≤ 100 ∧ s10 = .int .i64 j ∧ Hid (Ri wq w6.heap.size p7 (100 + j) ks2 vs2) ∧ Below w6.heap.size w6 wq) (fun s _ => 100 - (intOf s).toNat)
          case atStart => exact ⟨0, ks, vs, Nat.zero_le _, Nat.zero_le _, rfl, HR9, B9⟩
          case round =>
            clear HR9 B9
            obtain ⟨j, ks2, vs2, hi, hi2, rfl, HR, B⟩ := hrel
            by_cases hin : j < ms.length ∧ j < 100
            · obtain ⟨hlt, h100⟩ := hin
              have hd3 : decide ((j : Int) < 100) = true := decide_eq_true (by omega)
              have i0 : (0 : Int) ≤ (j : Int) := by omega
              have i1 : (j : Int) < (ms.length : Int) := by omega
              obtain ⟨gz, oz, ez, x0, x1, x2⟩ := three HS6.out hlt
              subst ez
              have HX1 := Lib.hid x1
              have HX2 := Lib.hid x2
              replace x0 := keepW B x0
              replace x1 := keepW B x1
              replace x2 := keepW B x2
              generalize ms[j] = r at *
              obtain ⟨ra, rk, rv⟩ := r
              simp only at x0 x1 x2 HX1 HX2
              by_cases h3 : ra = 3
              · subst h3
                have HC := Lib.hid (del_ri w6.heap.size p7 (100 + j) ks2 vs2 rk wr HR.out (by omega) B.size)
                unfold RiEnds at HC
                go_wp2_with fail
                refine HC.out.mono ?_
                rintro e w2 ⟨bo, ks3, vs3, rfl, h2, b2⟩
                have HR2 := Lib.hid h2
                have B2 := B.trans b2
                clear HC HR B h2 b2
                go_wp2_with fail
                go_roundw
                case rel => exact ⟨j + 1, ks3, vs3, by omega, by omega, by go_num, HR2, B2⟩
                case measure => simp [intOf]; omega
              · have hne : (ra == 3) = false := beq_eq_false_iff_ne.2 h3
                have HC : Hid (∀ W : World, Below w6.heap.size w6 W → Ri W w6.heap.size p7 (100 + j) ks2 vs2 → Calls Try.prog 67 #[.pointer (some ⟨p7, 0, none⟩), .int .i64 rk, .int .i64 rv] W (RiEnds W w6.heap.size p7 (100 + j + 1))) := (show ∀ W : World, _ from fun W hb hr => set_ri w6.heap.size p7 (100 + j) ks2 vs2 rk rv W hr (by omega) hb.size)
                have HRD := Lib.hid (HR.out.drewN 1)
                go_wp2_with fail
                go_region_held3 (fun w' => w'.cell? ⟨gz, oz + j * 3 + 1, none⟩ = some (.int .i64 rk) ∧ w'.cell? ⟨gz, oz + j * 3 + 2, none⟩ = some (.int .i64 rv)) (first | (exact ⟨keepW (B.drew.trans b2) HX1.out, keepW (B.drew.trans b2) HX2.out⟩) | go_keep) (first | (go_at_call 67; refine (HC.out _ (by exact B.drew) (by exact HRD.out)).mono ?_; unfold RiEnds; rintro e w2 ⟨bo, ks3, vs3, rfl, h2, b2⟩))
                have HR2 := Lib.hid h2
                have B2 : Below w6.heap.size w6 w2 := B.drew.trans b2
                clear HC HR B h2 b2 HRD
                go_wp2_with fail
                go_roundw
                case rel => exact ⟨j + 1, ks3, vs3, by omega, by omega, by go_num, HR2, B2⟩
                case measure => simp [intOf]; omega
            · by_cases hlt : j < ms.length
              all_goals
                first
                  | (have hd4 : decide ((j : Int) < 100) = false := decide_eq_false (by omega))
                  | skip
                clear hin
                go_wp2_with fail
                go_meet
                exact B
        case rest =>
          clear HR9 B9 HS6
          have B := hcut
          clear hcut
          obtain ⟨w10, hnm⟩ : ∃ W, W = wc := ⟨_, rfl⟩
          subst hnm
          have HBw := Lib.hid (stepB HB36.out B)
          replace HO4 := Lib.hid (HO4.out.below B)
          replace HW6 := Lib.hid (HW6.out.below B)
          clear B HB36 HB6 HT6
          go_wp2_with fail
          go_loopw [11] (fun s11 wq => ∃ (j : Nat), j ≤ ks.length ∧ s11 = .int .i64 j ∧ Hid (Below w3.heap.size w3 wq) ∧ Hid (∃ xs, OwnB wq w3.heap.size 3 1 Dk ks.length ck xs) ∧ Hid (OwnB wq w4.heap.size 3 1 Dw ks.length cw (ks.map (Value.int .i64)))) (fun s _ => ks.length - (intOf s).toNat)
          case atStart => exact ⟨0, Nat.zero_le _, rfl, HBw, (show ∃ xs, _ from ⟨_, HO4.out⟩), HW6⟩
          case round =>
          clear HBw HO4 HW6
          obtain ⟨j, hjn, rfl, HBw, HO, HW⟩ := hrel
          by_cases hlt : j < ks.length
          · obtain ⟨xs, HO1⟩ := HO.out
            obtain ⟨g, v0, hg, hgB, cw0, cf0⟩ := HO1.at_w hlt
            have HBw2 := Lib.hid (HBw.out.setCell (p := ⟨g, j, none⟩) hgB (.int .i64 (-7)))
            have HW2 := Lib.hid (HW.out.far1 (o := j) (HLt.out g hg) (.int .i64 (-7)))
            subst hg
            have HO2 : Hid (∃ xs, OwnB (wr.setCell ⟨g, j, none⟩ (.int .i64 (-7))) w3.heap.size 3 1 (some ⟨g, 0, none⟩) ks.length ck xs) := (show ∃ xs, _ from ⟨_, HO1.put hlt _⟩)
            have i0 : (0 : Int) ≤ (j : Int) := by omega
            have i1 : (j : Int) < (ks.length : Int) := by omega
            clear HO HBw HW HO1
            go_wp2_with fail
            go_roundw
            case rel => exact ⟨j + 1, by omega, by go_num, HBw2, HO2, HW2⟩
            case measure => simp [intOf]; omega
          · clear HO HLt
            have HT10 := Lib.hid (HT.out.below HBw.out)
            have HC := Lib.hid (copyII_calls w.heap.size w.heap.size DK DV ks vs wr HT10.out (by omega))
            unfold CopyEnds at HC
            go_wp2_with fail
            refine HC.out.mono ?_
            rintro e w11 ⟨p11, D11, V11, rfl, t11, b11⟩
            have HD := Lib.hid t11
            have HsD : Hid (w3.heap.size ≤ wr.heap.size) := (show _ ≤ _ from HBw.out.size)
            replace HBw := Lib.hid (HBw.out.trans (b11.mono HsD.out))
            replace HT10 := Lib.hid (HT10.out.below b11)
            replace HW := Lib.hid (HW.out.below b11)
            have HK := Lib.hid (keysII_calls w.heap.size w.heap.size DK DV ks vs w11 HT10.out (by omega))
            unfold KeysEndII at HK
            clear HC t11 b11
            go_wp2_with fail
            refine HK.out.mono ?_
            rintro e w12 ⟨D12, c12, rfl, o12, b12⟩
            replace HBw := Lib.hid (stepB HBw.out b12)
            replace HT10 := Lib.hid (HT10.out.below b12)
            replace HW := Lib.hid (HW.out.below b12)
            replace HD := Lib.hid (HD.out.below b12)
            have HSm := Lib.hid (same_own (c1 := c12) (c2 := cw) rfl (by omega) o12.sl HW.out.sl)
            clear HK b12 o12
            go_wp2_with fail
            refine HSm.out.mono ?_
            rintro e w13 ⟨rfl, q13, hq13⟩
            have HW13 : Hid (OwnB w13 w4.heap.size 3 1 Dw ks.length cw (ks.map (Value.int .i64))) := (show OwnB _ _ _ _ _ _ _ _ from by rw [hq13]; exact HW.out.drewN _)
            have HT13 : Hid (TbII w13 w.heap.size w.heap.size DK DV ks vs) := (show TbII _ _ _ _ _ _ _ from by rw [hq13]; exact HT10.out.drewN _)
            have HD13 : Hid (TbII w13 wr.heap.size p11 D11 V11 ks vs) := (show TbII _ _ _ _ _ _ _ from by rw [hq13]; exact HD.out.drewN _)
            have HB13 : Hid (Below w3.heap.size w3 w13) := (show Below _ _ _ from by rw [hq13]; exact below_drewN HBw.out _)
            have HK := Lib.hid (keysII_calls wr.heap.size p11 D11 V11 ks vs w13 HD13.out (by omega))
            unfold KeysEndII at HK
            clear hq13 HW HT10 HD HBw HSm
            go_wp2_with fail
            refine HK.out.mono ?_
            rintro e w14 ⟨D14, c14, rfl, o14, b14⟩
            replace HB13 := Lib.hid (stepB HB13.out b14)
            replace HT13 := Lib.hid (HT13.out.below b14)
            replace HW13 := Lib.hid (HW13.out.below b14)
            replace HD13 := Lib.hid (HD13.out.below b14)
            have HSm := Lib.hid (same_own (c1 := c14) (c2 := cw) rfl (by omega) o14.sl HW13.out.sl)
            clear HK b14 o14
            go_wp2_with fail
            refine HSm.out.mono ?_
            rintro e wd ⟨rfl, qd, hqd⟩
            have HWd : Hid (OwnB wd w4.heap.size 3 1 Dw ks.length cw (ks.map (Value.int .i64))) := (show OwnB _ _ _ _ _ _ _ _ from by rw [hqd]; exact HW13.out.drewN _)
            have HTd : Hid (TbII wd w.heap.size w.heap.size DK DV ks vs) := (show TbII _ _ _ _ _ _ _ from by rw [hqd]; exact HT13.out.drewN _)
            have HDd : Hid (TbII wd wr.heap.size p11 D11 V11 ks vs) := (show TbII _ _ _ _ _ _ _ from by rw [hqd]; exact HD13.out.drewN _)
            have HBd : Hid (Below w3.heap.size w3 wd) := (show Below _ _ _ from by rw [hqd]; exact below_drewN HB13.out _)
            have HPd : Hid (Pop w3.heap.size w wd wd w.heap.size (ks.drop 0) (vs.drop 0)) := (show Pop _ _ _ _ _ _ _ from by
              obtain ⟨ca, cb, h, h'⟩ := HT.out
              exact ⟨⟨DK, DV, HTd.out, fun g hg => .inl (own_lt h.k hg).1, fun g hg => .inl (own_lt h.v hg).1⟩, fun _ _ _ => rfl, Nat.le_refl _, h.b.lt, stepB HB3.out HBd.out⟩)
            clear hqd HSm HW13 HT13 HD13 HB13 HTd HBd HT HB3
            go_wp2_with fail
            go_loopw [13, 14, 15, 16, 17] (fun s13 _ _ _ _ wq => ∃ (j : Nat), j ≤ ks.length ∧ s13 = .int .i64 j ∧ Hid (Pop w3.heap.size w wd wq w.heap.size (ks.drop j) (vs.drop j))) (fun s _ _ _ _ _ => ks.length - (intOf s).toNat)
            case atStart => exact ⟨0, Nat.zero_le _, rfl, HPd⟩
            case round =>
            clear HPd
            obtain ⟨w10, hnm⟩ : ∃ W, W = wr := ⟨_, rfl⟩
            subst hnm
            obtain ⟨i, hin, rfl, HP⟩ := hrel
            have HWi := Lib.hid (HWd.out.keep (w' := w10) (fun g h1 h2 => HP.out.mid g (Nat.le_trans hs34.out h1) h2))
            have HDi := Lib.hid (HDd.out.mid (w' := w10) HsD.out HP.out.mid)
            by_cases hlt : i < ks.length
            · have hvl : i < vs.length := by rw [← HKV.out]; exact hlt
              have HK := Lib.hid (List.getElem?_eq_getElem hlt)
              have HV := Lib.hid (List.getElem?_eq_getElem hvl)
              obtain ⟨gk, ok, ek, kc⟩ := HWi.out.sl.at_ (k := i) (by simpa using hlt)
              rw [List.getElem_map] at kc
              subst ek
              have i0 : (0 : Int) ≤ (i : Int) := by omega
              have i1 : (i : Int) < (ks.length : Int) := by omega
              generalize ks[i] = k at *
              generalize vs[i] = v at *
              have HG := Lib.hid (HP.out.get HRI.out HK.out HV.out hkl2)
              have e1 : ((v : Int) != v) = false := by simp
              clear HWi
              go_wp2_with fail
              refine HG.out.mono ?_
              rintro e wa ⟨rfl, qa, hqa⟩
              have HPa : Hid (Pop w3.heap.size w wd wa w.heap.size (ks.drop i) (vs.drop i)) := (show Pop _ _ _ _ _ _ _ from by rw [hqa]; exact HP.out.drewN _)
              have HG2 := Lib.hid (get_in (w := wa) (by rw [hqa]; exact HDi.out.drewN _) HRI.out HK.out HV.out hkl2)
              have kca : wa.cell? ⟨gk, ok + i, none⟩ = some (.int .i64 k) := by rw [hqa]; exact kc
              clear hqa HP kc HDi HG
              go_wp2_with fail
              refine HG2.out.mono ?_
              rintro e wb ⟨rfl, qb, hqb⟩
              have HPb : Hid (Pop w3.heap.size w wd wb w.heap.size (ks.drop i) (vs.drop i)) := (show Pop _ _ _ _ _ _ _ from by rw [hqb]; exact HPa.out.drewN _)
              have kcb : wb.cell? ⟨gk, ok + i, none⟩ = some (.int .i64 k) := by rw [hqb]; exact kca
              have HDl := Lib.hid (HPb.out.del HRI.out HK.out hkl2)
              unfold PopEnds at HDl
              clear hqb HPa kca HG2 HPb
              go_wp2_with fail
              refine HDl.out.mono ?_
              rintro e wf ⟨rfl, hpf⟩
              have HPf := Lib.hid hpf
              clear hpf HDl
              go_wp2_with fail
              go_roundw
              case rel => exact ⟨i + 1, by omega, by go_num, HPf⟩
              case measure => simp [intOf]; omega
            · obtain rfl : i = ks.length := by omega
              obtain ⟨DKe, DVe, HTe⟩ : ∃ DK DV, Hid (TbII w10 w.heap.size w.heap.size DK DV [] []) := by
                obtain ⟨⟨DK, DV, h, _⟩, _⟩ := HP.out
                rw [List.drop_length, List.drop_of_length_le (by rw [HKV.out]; exact Nat.le_refl _)] at h
                exact ⟨DK, DV, h⟩
              have HB := Lib.hid HP.out.bel
              have HLn := Lib.hid (lenII_calls w.heap.size w.heap.size DKe DVe [] [] w10 HTe.out)
              have HKe := Lib.hid (keysII_calls wr.heap.size p11 D11 V11 ks vs w10 HDi.out (by omega))
              unfold KeysEndII at HKe
              clear HP HDi HTe
              go_wp2_with fail
              refine HLn.out.mono ?_
              rintro e wa ⟨rfl, hwa⟩
              obtain rfl := hwa.symm
              clear HLn hwa
              go_wp2_with fail
              refine HKe.out.mono ?_
              rintro e wb ⟨Db, cb, rfl, ob, bb⟩
              have HSm := Lib.hid (same_own (c1 := cb) (c2 := cw) rfl (by omega) ob.sl (HWi.out.below bb).sl)
              replace HB := Lib.hid (stepB HB.out bb)
              clear HKe ob bb HWi
              go_wp2_with fail
              refine HSm.out.mono ?_
              rintro e wf ⟨rfl, qf, hqf⟩
              replace HB := Lib.hid (show Below w.heap.size w wf by rw [hqf]; exact below_drewN HB.out _)
              clear hqf HSm
              go_wp2_with fail
              refine (tableRuns_calls wf).mono ?_
              rintro e wg ⟨rfl, bg⟩
              replace HB := Lib.hid (stepB HB.out bg)
              clear bg
              go_wp2_with fail
              go_ret
              exact ⟨rfl, HB.out⟩
end Go.Proofs.Ytepmnhlfjidhjaa
