/-
  The document's own classes: Has, marks.
-/
import Derived.Test.YtepmnhlfjidhjabClassRoomy
import Derived.Test.YtepmnhlfjidhjabClassRefM
import Derived.Test.YtepmnhlfjidhjabApp2
import Derived.Deep.DeepCutAuto
import Derived.Deep.CutBlock
import Derived.Deep.QuietTactic
import Derived.BigQuiet
namespace Go.Proofs.Ytepmnhlfjidhjab
open Go.RowKit Go.Mem

def R32 (x : Int) : Value := .int .i32 x
theorem infoR32 : (Try.prog.info? 21).map (fun i => (i.zero, i.size, i.bytes)) = some (some (.int .i32 0), 1, 4) := by kernel_rfl
theorem R32_one (l : List Int) : ∀ u ∈ l.map R32, u.oneCell' = true := by
  intro u hu; obtain ⟨_, _, rfl⟩ := List.mem_map.1 hu; rfl

set_option maxRecDepth 100000 in
set_option maxHeartbeats 1600000 in
theorem refHas_calls (A : Option Addr) (n c : Nat) (l : List (Int × Int)) (r : Int) (w : World) (hl : l.length = n) (hn : n ≤ 9223372036854775807) (hs : Sl w A (flatR l)) :
    Calls Try.prog 51 #[.slice A n c, .int .i32 r] w fun e w' => e = .returned (.bool (hasR l r)) ∧ w = w' := by
  subst hl
  have HS := Lib.hid hs
  clear hs
  have HH0 : Hid (hasR l r = hasR (l.drop 0) r) := (show _ = _ from rfl)
  go_enter Try.func51, Try.ntmps51
  go_wp2_with fail
  go_loop [5] (fun i => ∃ k : Nat, k ≤ l.length ∧ i = .int .i64 k ∧ Hid (hasR l r = hasR (l.drop k) r)) (fun i => l.length - (intOf i).toNat)
  case atStart => exact ⟨0, Nat.zero_le _, rfl, HH0⟩
  case round =>
    clear HH0
    obtain ⟨k, hk, rfl, HH⟩ := hrel
    by_cases hlt : k < l.length
    · have hdr := List.drop_eq_getElem_cons hlt
      obtain ⟨b, o, rfl, c1, c2⟩ := Sl.range HS.out (List.getElem?_eq_getElem hlt)
      have HHN : Hid (hasR (l.drop k) r = ((decide (l[k].1 ≤ r) && decide (r ≤ l[k].2)) || hasR (l.drop (k + 1)) r)) := (show _ = _ by rw [hdr]; rfl)
      generalize l[k] = g at *
      obtain ⟨g1, g2⟩ := g
      simp only at c1 c2 HHN
      have i0 : (0 : Int) ≤ (k : Int) := by omega
      have i1 : (k : Int) < (l.length : Int) := by omega
      clear hdr
      by_cases h1 : g1 ≤ r
      · have d1 : decide (g1 ≤ r) = true := decide_eq_true h1
        by_cases h2 : r ≤ g2
        · have d2 : decide (r ≤ g2) = true := decide_eq_true h2
          have HF : Hid (hasR l r = true) := (show _ = _ by rw [HH.out, HHN.out, decide_eq_true h1, decide_eq_true h2]; rfl)
          go_wp2_with fail
          go_ret
          exact ⟨by rw [HF.out]; rfl, rfl⟩
        · have d2 : decide (r ≤ g2) = false := decide_eq_false h2
          have HN : Hid (hasR l r = hasR (l.drop (k + 1)) r) := (show _ = _ by rw [HH.out, HHN.out, decide_eq_false h2, Bool.and_false]; rfl)
          go_wp2_with fail
          go_round
          case rel => exact ⟨k + 1, by omega, by go_num, HN⟩
          case measure => simp [intOf]; omega
      · have d1 : decide (g1 ≤ r) = false := decide_eq_false h1
        have HN : Hid (hasR l r = hasR (l.drop (k + 1)) r) := (show _ = _ by rw [HH.out, HHN.out, decide_eq_false h1]; rfl)
        go_wp2_with fail
        go_round
        case rel => exact ⟨k + 1, by omega, by go_num, HN⟩
        case measure => simp [intOf]; omega
    · have HF : Hid (hasR l r = false) := (show _ = _ by rw [HH.out, List.drop_eq_nil_of_le (by omega)]; rfl)
      go_wp2_with fail
      go_ret
      exact ⟨by rw [HF.out]; rfl, rfl⟩

theorem marks_take (l : List (Int × Int)) (k : Nat) (h : k < l.length) : Cls.marks (l.take (k + 1)) = Cls.marks (l.take k) ++ Cls.mark l[k] := by
  unfold Cls.marks
  rw [List.take_succ_eq_append_getElem h, List.flatMap_append, List.append_assoc]; simp
theorem mark_len (g : Int × Int) : (Cls.mark g).length ≤ 2 := by
  unfold Cls.mark; split <;> split <;> simp
theorem mark1 (g : Int × Int) : Cls.mark g = (if g.1 ≤ g.2 ∧ 0 ≤ g.1 ∧ g.1 ≤ 1114111 then [g.1] else []) ++ (if g.1 ≤ g.2 ∧ 0 ≤ g.2 ∧ g.2 < 1114111 then [g.2 + 1] else []) := rfl
def MarksEnd (w : World) (l : List (Int × Int)) (e : Ending) (w' : World) : Prop := ∃ (g : Nat) (L : List Int) (c : Nat), e = .returned (.slice (some ⟨g, 0, none⟩) L.length c) ∧ Cls.Marks l L ∧ L.length ≤ 4 + 2 * l.length ∧ w.heap.size ≤ g ∧ Sl w' (some ⟨g, 0, none⟩) (L.map R32) ∧ Below w.heap.size w w'
set_option maxRecDepth 100000 in
set_option maxHeartbeats 6400000 in
theorem marks_calls (A : Option Addr) (n c : Nat) (l : List (Int × Int)) (w : World) (hl : l.length = n) (hn : n ≤ 1000) (hs : Sl w A (flatR l)) (hi : In32 l) :
    Calls Try.prog 50 #[.slice A n c] w (MarksEnd w l) := by
  subst hl
  obtain ⟨ir, hir, hzr0, hzr1, hzr2⟩ := info_parts infoR32
  have HS := Lib.hid hs
  have HI := Lib.hid hi
  have HO0 : Hid (OwnB (w.alloc (.cells #[.int .i32 0, .int .i32 55296, .int .i32 57344, .int .i32 1114112] 21)) w.heap.size 21 1 (some ⟨w.heap.size, 0, none⟩) 4 4 ((Cls.marks (l.take 0)).map R32)) := (show OwnB _ _ _ _ _ _ _ _ from ⟨rfl, Nat.le_refl _, .inr ⟨w.heap.size, [], rfl, Nat.le_refl _, Blk.new w _ _, rfl⟩⟩)
  have hB0 := (Below.refl w.heap.size w).alloc (Nat.le_refl _) (.cells #[.int .i32 0, .int .i32 55296, .int .i32 57344, .int .i32 1114112] 21)
  clear hs hi
  go_enter Try.func50, Try.ntmps50
  go_upto_block 0 with fail
  go_cut [3] from 8 to 84 (fun s3 wx => ∃ (D : Option Addr) (N c : Nat), s3 = .slice D N c ∧ (Cls.marks l).length = N ∧ N ≤ 4 + 2 * l.length ∧ Hid (OwnB wx w.heap.size 21 1 D N c ((Cls.marks l).map R32)) ∧ Below w.heap.size w wx)
  case first =>
    go_wp2_with fail
    go_loopw [3, 4] (fun s3 i wr => ∃ (k : Nat) (D : Option Addr) (N c : Nat), k ≤ l.length ∧ i = .int .i64 k ∧ s3 = .slice D N c ∧ Hid ((Cls.marks (l.take k)).length = N) ∧ N ≤ 4 + 2 * k ∧ Hid (OwnB wr w.heap.size 21 1 D N c ((Cls.marks (l.take k)).map R32)) ∧ Below w.heap.size w wr) (fun _ i _ => l.length - (intOf i).toNat)
    case atStart => exact ⟨0, _, 4, 4, Nat.zero_le _, rfl, rfl, rfl, Nat.le_refl _, HO0, hB0⟩
    case round =>
      clear HO0 hB0
      obtain ⟨k, D, N, c3, hk, rfl, rfl, HN, hNk, HO, hB⟩ := hrel
      by_cases hlt : k < l.length
      · obtain ⟨b, o, rfl, x1, x2⟩ := Sl.range (HS.out.below hB) (List.getElem?_eq_getElem hlt)
        obtain ⟨hg1, hg2⟩ := HI.out _ (List.getElem_mem hlt)
        have HT := Lib.hid (marks_take l k hlt)
        have HX : Hid (∀ W, Below w.heap.size w W → W.cell? ⟨b, o + k * 2, none⟩ = some (.int .i32 l[k].1) ∧ W.cell? ⟨b, o + k * 2 + 1, none⟩ = some (.int .i32 l[k].2)) := (show ∀ _, _ from fun W hW => by
          obtain ⟨b', o', e, y1, y2⟩ := Sl.range (HS.out.below hW) (List.getElem?_eq_getElem hlt)
          obtain ⟨rfl, rfl⟩ : b = b' ∧ o = o' := by injection e with e; injection e with e1 e2; exact ⟨e1, e2⟩
          exact ⟨y1, y2⟩)
        generalize l[k] = g at *
        obtain ⟨g1, g2⟩ := g
        rw [mark1] at HT
        simp only at x1 x2 HX HT hg1 hg2
        have i0 : (0 : Int) ≤ (k : Int) := by omega
        have i1 : (k : Int) < (l.length : Int) := by omega
        obtain ⟨a1, a2⟩ := hg1
        obtain ⟨a3, a4⟩ := hg2
        have hsz := hB.size
        generalize Cls.marks (l.take k) = X at *
        generalize hYE : Cls.marks (l.take (k + 1)) = Y at *
        have HYE := Lib.hid hYE
        clear hYE
        by_cases k1a : g1 ≤ g2 ∧ 0 ≤ g1 ∧ g1 ≤ 1114111
        · obtain ⟨k1, k2, k3⟩ := k1a
          have d1 : decide (g1 ≤ g2) = true := decide_eq_true k1
          have d2 : decide (0 ≤ g1) = true := decide_eq_true k2
          have d3 : decide (g1 ≤ 1114111) = true := decide_eq_true k3
          rw [if_pos ⟨k1, k2, k3⟩, ← List.append_assoc] at HT
          go_wp2_with fail
          go_quiet (fail)
          have HO1 := Lib.hid (HO.out.drewN nq)
          have hB1 := below_drewN hB nq
          clear HO hB x1 x2 hsz
          generalize wr.drewN nq = W at HO1 hB1 ⊢
          obtain ⟨x1, x2⟩ := HX.out W hB1
          have hsz := hB1.size
          rename Hid (OwnB _ _ _ _ _ _ _ _) => HO
          rename Below _ _ _ => hB
          go_wp2_with (at_builtin; refine wpList_append_ownK (o := ⟨some 48, _, _, _, _, _⟩) rfl (.tmp 41) (.tmp 47) 88 88 rfl 21 ir (.int .i32 0) 1 4 Try.underlying88 hir hzr0 hzr1 hzr2 rfl w.heap.size _ _ _ (X.map R32) rfl (HO.out.alloc _) (.slice (some ⟨W.heap.size, 0, none⟩) 1 1) rfl 1 ([g1].map R32) (srcSl Try.underlying88 rfl (Sl.new rfl rfl) (R32_one _)) (by omega) (by omega) w (hB.alloc hsz _) (by simp; omega) ?_)
          intro w5 D5 c5 HO5 _ hB5 hs5
          have HO1 : Hid (OwnB w5 w.heap.size 21 1 D5 (N + 1) c5 ((X ++ [g1]).map R32)) := (show OwnB _ _ _ _ _ _ _ _ from by rw [List.map_append]; exact HO5.out)
          have HN1 : Hid ((X ++ [g1]).length = N + 1) := (show _ = _ from by rw [List.length_append, HN.out]; rfl)
          clear HO HO5 hB x1 x2 HN hsz d2 d3 k2 k3
          have hNk1 : N + 1 ≤ 4 + 2 * k + 1 := by omega
          clear hNk
          obtain ⟨x1, x2⟩ := HX.out w5 hB5
          have hsz := hB5.size
          generalize X ++ [g1] = X at *
          generalize N + 1 = N at *
          rename Hid (OwnB w5 _ _ _ _ _ _ _) => HO
          rename Below _ _ w5 => hB
          rename Hid (_ = N) => HN
          generalize w5 = wz at *
          generalize D5 = D at *
          generalize c5 = c3 at *
          by_cases k4 : 0 ≤ g2
          · by_cases k5 : g2 < 1114111
            · skip
              have d4 : decide (0 ≤ g2) = true := decide_eq_true k4
              have d5 : decide (g2 < 1114111) = true := decide_eq_true k5
              rw [if_pos ⟨k1, k4, k5⟩] at HT
              go_wp2_with fail
              go_quiet (fail)
              have HO1 := Lib.hid (HO.out.drewN nq)
              have hB1 := below_drewN hB nq
              clear HO hB x1 x2 hsz
              generalize wz.drewN nq = W at HO1 hB1 ⊢
              obtain ⟨x1, x2⟩ := HX.out W hB1
              have hsz := hB1.size
              rename Hid (OwnB _ _ _ _ _ _ _ _) => HO
              rename Below _ _ _ => hB
              go_wp2_with (at_builtin; refine wpList_append_ownK (o := ⟨some 84, _, _, _, _, _⟩) rfl (.tmp 76) (.tmp 83) 88 88 rfl 21 ir (.int .i32 0) 1 4 Try.underlying88 hir hzr0 hzr1 hzr2 rfl w.heap.size _ _ _ (X.map R32) rfl (HO.out.alloc _) (.slice (some ⟨W.heap.size, 0, none⟩) 1 1) rfl 1 ([g2 + 1].map R32) (srcSl Try.underlying88 rfl (Sl.new rfl rfl) (R32_one _)) (by omega) (by omega) w (hB.alloc hsz _) (by simp; omega) ?_)
              intro w5 D5 c5 HO5 _ hB5 hs5
              have HO1 : Hid (OwnB w5 w.heap.size 21 1 D5 (N + 1) c5 (Y.map R32)) := (show OwnB _ _ _ _ _ _ _ _ from by rw [HT.out, List.map_append]; exact HO5.out)
              have HN1 : Hid (Y.length = N + 1) := (show _ = _ from by rw [HT.out, List.length_append, HN.out]; rfl)
              clear HO HO5 hB x1 x2 HX HT hsz
              go_wp2_with fail
              go_roundw
              case rel => exact ⟨k + 1, D5, N + 1, c5, by omega, by go_num, rfl, by rw [HYE.out]; exact HN1, by omega, by rw [HYE.out]; exact HO1, hB5⟩
              case measure => simp [intOf]; omega
            · skip
              rw [if_neg (c := g1 ≤ g2 ∧ 0 ≤ g2 ∧ g2 < 1114111) (by omega), List.append_nil] at HT
              have HO1 : Hid (OwnB wz w.heap.size 21 1 D N c3 (Y.map R32)) := (show OwnB _ _ _ _ _ _ _ _ from by rw [HT.out]; exact HO.out)
              have HN1 : Hid (Y.length = N) := (show _ = _ from by rw [HT.out]; exact HN.out)
              clear HO HT HX hsz
              have d4 : decide (0 ≤ g2) = true := decide_eq_true k4
              have d5 : decide (g2 < 1114111) = false := decide_eq_false k5
              clear k5
              go_wp2_with fail
              go_quiet (fail)
              go_wp2_with fail
              go_roundw
              case rel => exact ⟨k + 1, D, N, c3, by omega, by go_num, rfl, by rw [HYE.out]; exact HN1, by omega, by rw [HYE.out]; exact HO1, below_drewN hB _⟩
              case measure => simp [intOf]; omega
          · skip
            rw [if_neg (c := g1 ≤ g2 ∧ 0 ≤ g2 ∧ g2 < 1114111) (by omega), List.append_nil] at HT
            have HO1 : Hid (OwnB wz w.heap.size 21 1 D N c3 (Y.map R32)) := (show OwnB _ _ _ _ _ _ _ _ from by rw [HT.out]; exact HO.out)
            have HN1 : Hid (Y.length = N) := (show _ = _ from by rw [HT.out]; exact HN.out)
            clear HO HT HX hsz
            have d4 : decide (0 ≤ g2) = false := decide_eq_false k4
            clear k4
            go_wp2_with fail
            go_quiet (fail)
            go_wp2_with fail
            go_roundw
            case rel => exact ⟨k + 1, D, N, c3, by omega, by go_num, rfl, by rw [HYE.out]; exact HN1, by omega, by rw [HYE.out]; exact HO1, below_drewN hB _⟩
            case measure => simp [intOf]; omega
        · by_cases k1 : g1 ≤ g2
          · by_cases k2 : 0 ≤ g1
            · skip
              have d1 : decide (g1 ≤ g2) = true := decide_eq_true k1
              have d2 : decide (0 ≤ g1) = true := decide_eq_true k2
              have d3 : decide (g1 ≤ 1114111) = false := decide_eq_false (by omega)
              clear k2
              rw [if_neg k1a, List.nil_append] at HT
              clear k1a
              go_wp2_with fail
              go_quiet (fail)
              have HO1 := Lib.hid (HO.out.drewN nq)
              have hB1 := below_drewN hB nq
              clear HO hB x1 x2 hsz
              generalize wr.drewN nq = W at HO1 hB1 ⊢
              obtain ⟨x1, x2⟩ := HX.out W hB1
              have hsz := hB1.size
              rename Hid (OwnB _ _ _ _ _ _ _ _) => HO
              rename Below _ _ _ => hB
              have hNk1 : N ≤ 4 + 2 * k + 1 := by omega
              generalize W = wz at *
              by_cases k4 : 0 ≤ g2
              · by_cases k5 : g2 < 1114111
                · skip
                  have d4 : decide (0 ≤ g2) = true := decide_eq_true k4
                  have d5 : decide (g2 < 1114111) = true := decide_eq_true k5
                  rw [if_pos ⟨k1, k4, k5⟩] at HT
                  go_wp2_with fail
                  go_quiet (fail)
                  have HO1 := Lib.hid (HO.out.drewN nq)
                  have hB1 := below_drewN hB nq
                  clear HO hB x1 x2 hsz
                  generalize wz.drewN nq = W at HO1 hB1 ⊢
                  obtain ⟨x1, x2⟩ := HX.out W hB1
                  have hsz := hB1.size
                  rename Hid (OwnB _ _ _ _ _ _ _ _) => HO
                  rename Below _ _ _ => hB
                  go_wp2_with (at_builtin; refine wpList_append_ownK (o := ⟨some 84, _, _, _, _, _⟩) rfl (.tmp 76) (.tmp 83) 88 88 rfl 21 ir (.int .i32 0) 1 4 Try.underlying88 hir hzr0 hzr1 hzr2 rfl w.heap.size _ _ _ (X.map R32) rfl (HO.out.alloc _) (.slice (some ⟨W.heap.size, 0, none⟩) 1 1) rfl 1 ([g2 + 1].map R32) (srcSl Try.underlying88 rfl (Sl.new rfl rfl) (R32_one _)) (by omega) (by omega) w (hB.alloc hsz _) (by simp; omega) ?_)
                  intro w5 D5 c5 HO5 _ hB5 hs5
                  have HO1 : Hid (OwnB w5 w.heap.size 21 1 D5 (N + 1) c5 (Y.map R32)) := (show OwnB _ _ _ _ _ _ _ _ from by rw [HT.out, List.map_append]; exact HO5.out)
                  have HN1 : Hid (Y.length = N + 1) := (show _ = _ from by rw [HT.out, List.length_append, HN.out]; rfl)
                  clear HO HO5 hB x1 x2 HX HT hsz
                  go_wp2_with fail
                  go_roundw
                  case rel => exact ⟨k + 1, D5, N + 1, c5, by omega, by go_num, rfl, by rw [HYE.out]; exact HN1, by omega, by rw [HYE.out]; exact HO1, hB5⟩
                  case measure => simp [intOf]; omega
                · skip
                  rw [if_neg (c := g1 ≤ g2 ∧ 0 ≤ g2 ∧ g2 < 1114111) (by omega), List.append_nil] at HT
                  have HO1 : Hid (OwnB wz w.heap.size 21 1 D N c3 (Y.map R32)) := (show OwnB _ _ _ _ _ _ _ _ from by rw [HT.out]; exact HO.out)
                  have HN1 : Hid (Y.length = N) := (show _ = _ from by rw [HT.out]; exact HN.out)
                  clear HO HT HX hsz
                  have d4 : decide (0 ≤ g2) = true := decide_eq_true k4
                  have d5 : decide (g2 < 1114111) = false := decide_eq_false k5
                  clear k5
                  go_wp2_with fail
                  go_quiet (fail)
                  go_wp2_with fail
                  go_roundw
                  case rel => exact ⟨k + 1, D, N, c3, by omega, by go_num, rfl, by rw [HYE.out]; exact HN1, by omega, by rw [HYE.out]; exact HO1, below_drewN hB _⟩
                  case measure => simp [intOf]; omega
              · skip
                rw [if_neg (c := g1 ≤ g2 ∧ 0 ≤ g2 ∧ g2 < 1114111) (by omega), List.append_nil] at HT
                have HO1 : Hid (OwnB wz w.heap.size 21 1 D N c3 (Y.map R32)) := (show OwnB _ _ _ _ _ _ _ _ from by rw [HT.out]; exact HO.out)
                have HN1 : Hid (Y.length = N) := (show _ = _ from by rw [HT.out]; exact HN.out)
                clear HO HT HX hsz
                have d4 : decide (0 ≤ g2) = false := decide_eq_false k4
                clear k4
                go_wp2_with fail
                go_quiet (fail)
                go_wp2_with fail
                go_roundw
                case rel => exact ⟨k + 1, D, N, c3, by omega, by go_num, rfl, by rw [HYE.out]; exact HN1, by omega, by rw [HYE.out]; exact HO1, below_drewN hB _⟩
                case measure => simp [intOf]; omega
            · skip
              have d1 : decide (g1 ≤ g2) = true := decide_eq_true k1
              have d2 : decide (0 ≤ g1) = false := decide_eq_false k2
              clear k2
              rw [if_neg k1a, List.nil_append] at HT
              clear k1a
              go_wp2_with fail
              go_quiet (fail)
              have HO1 := Lib.hid (HO.out.drewN nq)
              have hB1 := below_drewN hB nq
              clear HO hB x1 x2 hsz
              generalize wr.drewN nq = W at HO1 hB1 ⊢
              obtain ⟨x1, x2⟩ := HX.out W hB1
              have hsz := hB1.size
              rename Hid (OwnB _ _ _ _ _ _ _ _) => HO
              rename Below _ _ _ => hB
              have hNk1 : N ≤ 4 + 2 * k + 1 := by omega
              generalize W = wz at *
              by_cases k4 : 0 ≤ g2
              · by_cases k5 : g2 < 1114111
                · skip
                  have d4 : decide (0 ≤ g2) = true := decide_eq_true k4
                  have d5 : decide (g2 < 1114111) = true := decide_eq_true k5
                  rw [if_pos ⟨k1, k4, k5⟩] at HT
                  go_wp2_with fail
                  go_quiet (fail)
                  have HO1 := Lib.hid (HO.out.drewN nq)
                  have hB1 := below_drewN hB nq
                  clear HO hB x1 x2 hsz
                  generalize wz.drewN nq = W at HO1 hB1 ⊢
                  obtain ⟨x1, x2⟩ := HX.out W hB1
                  have hsz := hB1.size
                  rename Hid (OwnB _ _ _ _ _ _ _ _) => HO
                  rename Below _ _ _ => hB
                  go_wp2_with (at_builtin; refine wpList_append_ownK (o := ⟨some 84, _, _, _, _, _⟩) rfl (.tmp 76) (.tmp 83) 88 88 rfl 21 ir (.int .i32 0) 1 4 Try.underlying88 hir hzr0 hzr1 hzr2 rfl w.heap.size _ _ _ (X.map R32) rfl (HO.out.alloc _) (.slice (some ⟨W.heap.size, 0, none⟩) 1 1) rfl 1 ([g2 + 1].map R32) (srcSl Try.underlying88 rfl (Sl.new rfl rfl) (R32_one _)) (by omega) (by omega) w (hB.alloc hsz _) (by simp; omega) ?_)
                  intro w5 D5 c5 HO5 _ hB5 hs5
                  have HO1 : Hid (OwnB w5 w.heap.size 21 1 D5 (N + 1) c5 (Y.map R32)) := (show OwnB _ _ _ _ _ _ _ _ from by rw [HT.out, List.map_append]; exact HO5.out)
                  have HN1 : Hid (Y.length = N + 1) := (show _ = _ from by rw [HT.out, List.length_append, HN.out]; rfl)
                  clear HO HO5 hB x1 x2 HX HT hsz
                  go_wp2_with fail
                  go_roundw
                  case rel => exact ⟨k + 1, D5, N + 1, c5, by omega, by go_num, rfl, by rw [HYE.out]; exact HN1, by omega, by rw [HYE.out]; exact HO1, hB5⟩
                  case measure => simp [intOf]; omega
                · skip
                  rw [if_neg (c := g1 ≤ g2 ∧ 0 ≤ g2 ∧ g2 < 1114111) (by omega), List.append_nil] at HT
                  have HO1 : Hid (OwnB wz w.heap.size 21 1 D N c3 (Y.map R32)) := (show OwnB _ _ _ _ _ _ _ _ from by rw [HT.out]; exact HO.out)
                  have HN1 : Hid (Y.length = N) := (show _ = _ from by rw [HT.out]; exact HN.out)
                  clear HO HT HX hsz
                  have d4 : decide (0 ≤ g2) = true := decide_eq_true k4
                  have d5 : decide (g2 < 1114111) = false := decide_eq_false k5
                  clear k5
                  go_wp2_with fail
                  go_quiet (fail)
                  go_wp2_with fail
                  go_roundw
                  case rel => exact ⟨k + 1, D, N, c3, by omega, by go_num, rfl, by rw [HYE.out]; exact HN1, by omega, by rw [HYE.out]; exact HO1, below_drewN hB _⟩
                  case measure => simp [intOf]; omega
              · skip
                rw [if_neg (c := g1 ≤ g2 ∧ 0 ≤ g2 ∧ g2 < 1114111) (by omega), List.append_nil] at HT
                have HO1 : Hid (OwnB wz w.heap.size 21 1 D N c3 (Y.map R32)) := (show OwnB _ _ _ _ _ _ _ _ from by rw [HT.out]; exact HO.out)
                have HN1 : Hid (Y.length = N) := (show _ = _ from by rw [HT.out]; exact HN.out)
                clear HO HT HX hsz
                have d4 : decide (0 ≤ g2) = false := decide_eq_false k4
                clear k4
                go_wp2_with fail
                go_quiet (fail)
                go_wp2_with fail
                go_roundw
                case rel => exact ⟨k + 1, D, N, c3, by omega, by go_num, rfl, by rw [HYE.out]; exact HN1, by omega, by rw [HYE.out]; exact HO1, below_drewN hB _⟩
                case measure => simp [intOf]; omega
          · skip
            have d1 : decide (g1 ≤ g2) = false := decide_eq_false k1
            rw [if_neg k1a, List.nil_append] at HT
            clear k1a
            go_wp2_with fail
            go_quiet (fail)
            have HO1 := Lib.hid (HO.out.drewN nq)
            have hB1 := below_drewN hB nq
            clear HO hB x1 x2 hsz
            generalize wr.drewN nq = W at HO1 hB1 ⊢
            obtain ⟨x1, x2⟩ := HX.out W hB1
            have hsz := hB1.size
            rename Hid (OwnB _ _ _ _ _ _ _ _) => HO
            rename Below _ _ _ => hB
            have hNk1 : N ≤ 4 + 2 * k + 1 := by omega
            generalize W = wz at *
            rw [if_neg (c := g1 ≤ g2 ∧ 0 ≤ g2 ∧ g2 < 1114111) (by omega), List.append_nil] at HT
            have HO1 : Hid (OwnB wz w.heap.size 21 1 D N c3 (Y.map R32)) := (show OwnB _ _ _ _ _ _ _ _ from by rw [HT.out]; exact HO.out)
            have HN1 : Hid (Y.length = N) := (show _ = _ from by rw [HT.out]; exact HN.out)
            clear HO HT HX hsz
            go_wp2_with fail
            go_quiet (fail)
            go_wp2_with fail
            go_roundw
            case rel => exact ⟨k + 1, D, N, c3, by omega, by go_num, rfl, by rw [HYE.out]; exact HN1, by omega, by rw [HYE.out]; exact HO1, below_drewN hB _⟩
            case measure => simp [intOf]; omega
      · obtain rfl : k = l.length := by omega
        rw [List.take_of_length_le (Nat.le_refl _)] at HN HO
        go_wp2_with fail
        go_meet
        exact ⟨D, N, c3, rfl, HN.out, hNk, HO, hB⟩
  case rest =>
    clear HO0 hB0 HS HI hir hzr0 hzr1 hzr2
    obtain ⟨D, N, c3, rfl, hL, hN, HO, hB⟩ := hcut
    have hN4 : 4 ≤ N := by rw [← hL]; simp [Cls.marks]
    have hNc := HO.out.le
    obtain ⟨g, sp, rfl, hg, hb, hc⟩ := HO.out.2.2.resolve_left (fun h => by omega)
    have HL0 : Hid (∃ L : List Int, L.length = N ∧ Cls.Ris L 1 ∧ (∀ x, x ∈ L ↔ x ∈ Cls.marks l) ∧ Blk wc g 21 (L.map R32 ++ sp)) := (show ∃ _, _ from ⟨Cls.marks l, hL, Cls.Ris.one _, fun _ => Iff.rfl, hb⟩)
    clear hL HO hb hc
    go_wp2_with fail
    go_loopw [5, 6] (fun i _ wr => ∃ (k : Nat), 1 ≤ k ∧ k ≤ N ∧ i = .int .i64 k ∧ Hid (∃ L : List Int, L.length = N ∧ Cls.Ris L k ∧ (∀ x, x ∈ L ↔ x ∈ Cls.marks l) ∧ Blk wr g 21 (L.map R32 ++ sp)) ∧ Below w.heap.size w wr) (fun i _ _ => N - (intOf i).toNat)
    case atStart => exact ⟨1, Nat.le_refl _, by omega, rfl, HL0, hB⟩
    case round =>
      clear HL0 hB
      obtain ⟨k, h1, hk, rfl, HL, hB⟩ := hrel
      by_cases hlt : k < N
      · obtain ⟨wo, rfl⟩ : ∃ wo : World, wo = wr := ⟨_, rfl⟩
        have HL0 : Hid (∃ L : List Int, L.length = N ∧ Cls.InvS L k k ∧ (∀ x, x ∈ L ↔ x ∈ Cls.marks l) ∧ Blk wo g 21 (L.map R32 ++ sp)) := (show ∃ _, _ from by
          obtain ⟨L, e1, e2, e3, e4⟩ := HL.out
          exact ⟨L, e1, e2.start, e3, e4⟩)
        clear HL
        go_wp2_with fail
        go_loopw [6] (fun j wr => ∃ (q : Nat), q ≤ k ∧ j = .int .i64 q ∧ Hid (∃ L : List Int, L.length = N ∧ Cls.InvS L k q ∧ (∀ x, x ∈ L ↔ x ∈ Cls.marks l) ∧ Blk wr g 21 (L.map R32 ++ sp)) ∧ Below w.heap.size w wr) (fun j _ => (intOf j).toNat)
        case atStart => exact ⟨k, Nat.le_refl _, rfl, HL0, hB⟩
        case round =>
          clear HL0 hB
          obtain ⟨q, hq, rfl, HL, hB⟩ := hrel
          obtain ⟨L, hl, hinv, hmem, hb⟩ := HL.out
          clear HL
          cases q with
          | zero =>
            have HR : Hid (∃ L : List Int, L.length = N ∧ Cls.Ris L (k + 1) ∧ (∀ x, x ∈ L ↔ x ∈ Cls.marks l) ∧ Blk wr g 21 (L.map R32 ++ sp)) := (show ∃ _, _ from ⟨L, hl, hinv.zero, hmem, hb⟩)
            have d0 : decide ((0 : Int) < ((0 : Nat) : Int)) = false := rfl
            clear hl hinv hmem hb
            go_wp2_with fail
            go_quiet (fail)
            go_wp2_with fail
            go_roundw
            case rel => exact ⟨k + 1, by omega, by omega, by go_num, (show Hid (∃ L : List Int, L.length = N ∧ Cls.Ris L (k + 1) ∧ (∀ x, x ∈ L ↔ x ∈ Cls.marks l) ∧ Blk (wr.drewN _) g 21 (L.map R32 ++ sp)) from HR), below_drewN hB _⟩
            case measure => simp [intOf]; omega
          | succ q =>
            have hqL : q < L.length := by omega
            have hqL1 : q + 1 < L.length := by omega
            have hu := List.getElem?_eq_getElem hqL
            have hv := List.getElem?_eq_getElem hqL1
            generalize L[q] = u at hu
            generalize L[q + 1] = v at hv
            have c0 := hb.cell q
            have c1 := hb.cell (q + 1)
            rw [List.getElem?_append_left (by simpa using hqL), List.getElem?_map, hu, Option.map_some] at c0
            rw [List.getElem?_append_left (by simpa using hqL1), List.getElem?_map, hv, Option.map_some] at c1
            unfold R32 at c0 c1
            have f0 := hb.frozen q
            have f1 := hb.frozen (q + 1)
            have q0 : (0 : Int) ≤ (q : Int) := by omega
            have q1 : (q : Int) < (N : Int) := by omega
            have q2 : (0 : Int) ≤ (q : Int) + 1 := by omega
            have q3 : (q : Int) + 1 < (N : Int) := by omega
            have d0 : decide ((0 : Int) < (q : Int) + 1) = true := decide_eq_true (by omega)
            have e0 : ((q + 1 : Nat) : Int) = (q : Int) + 1 := by omega
            have e1 : IntKind.i64.wrap (q : Int) = (q : Int) := IntWalk.i64_in _ (by omega)
            have e2 : ((q : Int) + 1).toNat = q + 1 := by omega
            rw [e0]
            have E0 := Lib.hid e0
            clear e0
            by_cases hlt2 : v < u
            · have dv : decide (v < u) = true := decide_eq_true hlt2
              have HB2 : Hid (∀ W : World, Blk W g 21 (L.map R32 ++ sp) → Blk ((W.setCell ⟨g, q, none⟩ (.int .i32 v)).setCell ⟨g, q + 1, none⟩ (.int .i32 u)) g 21 ((Cls.swp L q u v).map R32 ++ sp)) := (show ∀ _, _ from fun W hW => by
                have h := (hW.set_ q (.int .i32 v)).set_ (q + 1) (.int .i32 u)
                rw [List.set_append_left _ _ (by simpa using hqL), List.set_append_left _ _ (by simpa using hqL1)] at h
                unfold Cls.swp
                rw [List.map_set, List.map_set]
                exact h)
              have HL2 : Hid (∀ W : World, Blk W g 21 ((Cls.swp L q u v).map R32 ++ sp) → ∃ L : List Int, L.length = N ∧ Cls.InvS L k q ∧ (∀ x, x ∈ L ↔ x ∈ Cls.marks l) ∧ Blk W g 21 (L.map R32 ++ sp)) := (show ∀ _, _ from fun W hW => ⟨_, by rw [Cls.swp_length]; exact hl, hinv.step (by omega) hu hv hlt2, fun x => (Cls.swp_mem hu hv x).trans (hmem x), hW⟩)
              have HB := Lib.hid hb
              clear hl hinv hmem hb hu hv
              go_wp2_with fail
              go_quiet (fail)
              go_wp2_with fail
              go_region
              have hb9 : Blk (wr.drewN (nq + 1)) g 21 (L.map R32 ++ sp) := HB.out
              have HR : Hid (∃ L : List Int, L.length = N ∧ Cls.InvS L k q ∧ (∀ x, x ∈ L ↔ x ∈ Cls.marks l) ∧ Blk (((wr.drewN (nq + 1)).setCell ⟨g, q, none⟩ (.int .i32 v)).setCell ⟨g, q + 1, none⟩ (.int .i32 u)) g 21 (L.map R32 ++ sp)) := (show ∃ _, _ from HL2.out _ (HB2.out _ hb9))
              have hB9 : Below w.heap.size w (((wr.drewN (nq + 1)).setCell ⟨g, q, none⟩ (.int .i32 v)).setCell ⟨g, q + 1, none⟩ (.int .i32 u)) := ((below_drewN hB _).setCell hg _).setCell hg _
              clear HB HL2 HB2 hb9 c0 c1 f0 f1 hB
              go_wp2_with fail
              go_roundw
              case rel => exact ⟨q, by omega, rfl, HR, hB9⟩
              case measure => simp [intOf]
            · have dv : decide (v < u) = false := decide_eq_false hlt2
              have HR : Hid (∃ L : List Int, L.length = N ∧ Cls.Ris L (k + 1) ∧ (∀ x, x ∈ L ↔ x ∈ Cls.marks l) ∧ Blk wr g 21 (L.map R32 ++ sp)) := (show ∃ _, _ from ⟨L, hl, hinv.done hu hv (by omega), hmem, hb⟩)
              clear hl hinv hmem hb hu hv
              go_wp2_with fail
              go_quiet (fail)
              go_wp2_with fail
              go_roundw
              case rel => exact ⟨k + 1, by omega, by omega, by go_num, (show Hid (∃ L : List Int, L.length = N ∧ Cls.Ris L (k + 1) ∧ (∀ x, x ∈ L ↔ x ∈ Cls.marks l) ∧ Blk (wr.drewN _) g 21 (L.map R32 ++ sp)) from HR), below_drewN hB _⟩
              case measure => simp [intOf]; omega
      · obtain rfl : k = N := by omega
        go_wp2_with fail
        go_ret
        obtain ⟨L, hl, hr, hm, hb⟩ := HL.out
        have hs := hb.sl.take (L.map R32).length
        rw [List.take_left] at hs
        exact ⟨g, L, c3, by rw [hl]; rfl, ⟨by rw [hl]; exact hr, hm⟩, by omega, hg, hs, hB⟩
end Go.Proofs.Ytepmnhlfjidhjab
