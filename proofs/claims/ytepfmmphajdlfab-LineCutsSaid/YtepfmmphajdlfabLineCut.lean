/-
  The contract of line.Cut.
-/
import Derived.Test.YtepfmmphajdlfabLine
import Derived.Test.YtepfmmphajdlfabConv
import Derived.IntWalk
namespace Go.Line
structure Cu where
  n : Nat
  l : Bool
  b : Nat
  out : List (List UInt8)
def cutStep (bs : List UInt8) (i : Nat) (s : Cu) : Cu :=
  if (step s.n s.l (bs.getD i 0)).2.2 = 2 then ⟨(step s.n s.l (bs.getD i 0)).1, (step s.n s.l (bs.getD i 0)).2.1, i + 1, s.out ++ [(bs.drop s.b).take (i - s.b)]⟩
  else if (step s.n s.l (bs.getD i 0)).2.2 = 5 then ⟨(step s.n s.l (bs.getD i 0)).1, (step s.n s.l (bs.getD i 0)).2.1, i + 1, s.out⟩
  else ⟨(step s.n s.l (bs.getD i 0)).1, (step s.n s.l (bs.getD i 0)).2.1, s.b, s.out⟩
def cuts (bs : List UInt8) : Nat → Cu
  | 0 => ⟨0, false, 0, []⟩
  | i + 1 => cutStep bs i (cuts bs i)
theorem cuts_ok (bs : List UInt8) : ∀ i, (cuts bs i).n ≤ 200 ∧ (cuts bs i).b ≤ i ∧ (cuts bs i).out.length ≤ i
  | 0 => ⟨Nat.zero_le _, Nat.le_refl _, Nat.le_refl _⟩
  | i + 1 => by
    obtain ⟨h1, h2, h3⟩ := cuts_ok bs i
    have h4 := step_le (cuts bs i).n (cuts bs i).l (bs.getD i 0) h1
    show (cutStep bs i (cuts bs i)).n ≤ 200 ∧ (cutStep bs i (cuts bs i)).b ≤ i + 1 ∧ (cutStep bs i (cuts bs i)).out.length ≤ i + 1
    unfold cutStep
    split
    · exact ⟨h4, Nat.le_refl _, by simp; omega⟩
    · split
      · exact ⟨h4, Nat.le_refl _, by simp only; omega⟩
      · exact ⟨h4, by simp only; omega, by simp only; omega⟩
end Go.Line
namespace Go.Proofs.Ytepfmmphajdlfab
open Go.RowKit Go.Mem

theorem infoStr : (Try.prog.info? 9).map (fun i => (i.zero, i.size, i.bytes)) = some (some (.string .empty), 1, 16) := by kernel_rfl
/-- texts of the call's own -/
def TextsEnd (w : World) (ss : List (List UInt8)) (e : Ending) (w' : World) : Prop := ∃ (D : Option Addr) (n c : Nat), e = .returned (.slice D n c) ∧ OwnB w' w.heap.size 9 1 D n c (ss.map S8) ∧ Below w.heap.size w w'

set_option maxHeartbeats 1600000 in
theorem cut_calls (A : Option Addr) (n cap : Nat) (bs : List UInt8) (w : World) (hl : bs.length = n) (hn : n ≤ 65536) (hc : n ≤ cap) (hs : Sl w A (bs.map B8)) :
    Calls Try.prog 31 #[.slice A n cap] w (TextsEnd w (Line.cuts bs n).out) := by
  subst hl
  obtain ⟨i0, hi, hz0, hz1, hz2⟩ := info_parts infoStr
  go_enter Try.func31, Try.ntmps31
  go_wp2_with fail
  refine (splNew_calls w).mono ?_
  rintro e w1 ⟨rfl, hp, hb1⟩
  have hps : w.heap.size < w1.heap.size := hp.lt
  go_wp2_with fail
  go_loopw [3, 5, 6, 7, 11] (fun l b _ _ i wr => ∃ (j N c : Nat) (D : Option Addr), j ≤ bs.length ∧ i = .int .i64 j ∧ l = .slice D N c ∧ b = .int .i64 ((Line.cuts bs j).b : Int) ∧ Hid (OwnB wr (w.heap.size + 1) 9 1 D N c ((Line.cuts bs j).out.map S8)) ∧ Spl wr w.heap.size (Line.cuts bs j).n (Line.cuts bs j).l ∧ Below w.heap.size w wr) (fun _ _ _ _ i _ => bs.length - (intOf i).toNat)
  case atStart => exact ⟨0, 0, 0, none, Nat.zero_le _, rfl, rfl, rfl, OwnB.nil _ _ _ _, hp, hb1⟩
  case round =>
    clear hp hb1 hps
    obtain ⟨j, N, c, D, hj, rfl, rfl, rfl, HO, hp, hB⟩ := hrel
    obtain ⟨ok1, ok2, ok3⟩ := Line.cuts_ok bs j
    have hNl : (Line.cuts bs j).out.length = N := by have := HO.out.len; rw [List.length_map, Nat.mul_one] at this; exact this
    have hNj : N ≤ j := by omega
    by_cases hlt : j < bs.length
    · have HS : Hid (Line.cuts bs (j + 1) = Line.cutStep bs j (Line.cuts bs j)) := show _ = _ from rfl
      have hgd : bs.getD j 0 = bs[j] := by simp [List.getD, hlt]
      unfold Line.cutStep at HS
      rw [hgd] at HS
      obtain ⟨b, o, rfl, hca⟩ := (hs.below hB).byte hlt
      have hcut := (hs.cut (k := (Line.cuts bs j).b) (cap := cap) (by rw [List.length_map]; exact hc)).take (j - (Line.cuts bs j).b)
      rw [← List.map_drop, ← List.map_take, if_neg (show ¬ cap = (Line.cuts bs j).b by omega), Option.map_some, Addr.add_lit] at hcut
      generalize bs[j] = x at hca HS
      have hxl : ((bs.drop (Line.cuts bs j).b).take (j - (Line.cuts bs j).b)).length = j - (Line.cuts bs j).b := by rw [List.length_take, List.length_drop]; omega
      generalize (bs.drop (Line.cuts bs j).b).take (j - (Line.cuts bs j).b) = ys at hcut HS hxl
      have HXL := Lib.hid hxl
      clear hxl hNl hgd ok3
      have HC := splByte_calls w.heap.size (Line.cuts bs j).n (Line.cuts bs j).l x wr ok1 hp
      have h200 := Line.step_le (Line.cuts bs j).n (Line.cuts bs j).l x ok1
      generalize Line.step (Line.cuts bs j).n (Line.cuts bs j).l x = r at HC HS h200
      generalize (Line.cuts bs j).out = ss at HO HS
      generalize (Line.cuts bs j).b = bg at hcut HXL HS ok2
      have HCC := Lib.hid HC
      clear HC
      obtain ⟨n2, l2, kd⟩ := r
      simp only at HS h200
      have HT := Lib.hid hs
      clear hs
      by_cases h2 : kd = 2
      · subst h2
        have HS2 : Hid (Line.cuts bs (j + 1) = ⟨n2, l2, j + 1, ss ++ [ys]⟩) := by
          have h := HS.out
          rw [if_pos rfl] at h
          exact h
        clear HS
        go_wp2_with fail
        refine HCC.out.mono ?_
        unfold ByteEnds
        rintro e w2 ⟨rfl, hp2, ho2⟩
        have hB2 := below_only hB ho2 hB.size (Nat.le_refl _)
        have HO2 := HO.out.only hp (by decide) ho2
        have hcut2 := hcut.below hB2
        have hsz2 : w.heap.size + 1 ≤ w2.heap.size := hp2.lt
        clear HCC HO hp hB
        have kc := conv_str (P := Try.prog) w2 24 9 5 Try.underlying24 Try.underlying5 Try.underlying9 _ _ (cap - bg) ys HXL.out hcut2
        unfold S8 at kc
        go_wp2_with (at_builtin; refine wpList_append_ownB (o := ⟨some 28, _, _, _, _, _⟩) rfl (.tmp 21) (.tmp 27) 51 51 rfl 9 i0 (.string .empty) 1 16 Try.underlying51 hi hz0 hz1 hz2 rfl (w.heap.size + 1) D N c (ss.map S8) rfl (HO2.alloc _) (.slice (some ⟨w2.heap.size, 0, none⟩) 1 1) rfl 1 ([ys].map S8) (srcSl Try.underlying51 rfl (Sl.new rfl rfl) (text_one _)) (by omega) (by omega) w2 ((Below.refl _ _).alloc hsz2 _) (by simp; omega) ?_)
        intro w3 D3 c3 HO3 hb3 hsz3
        have hp3 : Spl w3 w.heap.size n2 l2 := hp2.below hb3 (by omega)
        have hB3 := hB2.trans (hb3.mono (Nat.le_succ _))
        clear HO2 hsz2 kc
        have HO4 : Hid (OwnB w3 (w.heap.size + 1) 9 1 D3 (N + 1) c3 ((ss ++ [ys]).map S8)) := by show OwnB _ _ _ _ _ _ _ _; rw [List.map_append]; exact HO3.out
        clear HO3 hp2 hB2 hb3
        go_wp2_with fail
        go_roundw
        case rel => exact ⟨j + 1, N + 1, c3, D3, by omega, by go_num, rfl, by rw [HS2.out]; go_num, by rw [HS2.out]; exact HO4, by rw [HS2.out]; exact hp3, hB3⟩
        case measure => simp [intOf]; omega
      · have hk2 : ((kd : Int) == 2) = false := beq_eq_false_iff_ne.2 (by omega)
        by_cases h5 : kd = 5
        · subst h5
          have HS2 : Hid (Line.cuts bs (j + 1) = ⟨n2, l2, j + 1, ss⟩) := by
            have h := HS.out
            rw [if_neg (by decide), if_pos rfl] at h
            exact h
          clear HS
          go_wp2_with fail
          refine HCC.out.mono ?_
          unfold ByteEnds
          rintro e w2 ⟨rfl, hp2, ho2⟩
          have hB2 := below_only hB ho2 hB.size (Nat.le_refl _)
          have HO2 := HO.out.only hp (by decide) ho2
          clear HCC HO hp hB hcut
          go_wp2_with fail
          go_roundw
          case rel => exact ⟨j + 1, N, c, D, by omega, by go_num, rfl, by rw [HS2.out]; go_num, by rw [HS2.out]; exact HO2, by rw [HS2.out]; exact hp2, hB2⟩
          case measure => simp [intOf]; omega
        · have hk5 : ((kd : Int) == 5) = false := beq_eq_false_iff_ne.2 (by omega)
          have HS2 : Hid (Line.cuts bs (j + 1) = ⟨n2, l2, bg, ss⟩) := by
            have h := HS.out
            rw [if_neg h2, if_neg h5] at h
            exact h
          clear HS
          go_wp2_with fail
          refine HCC.out.mono ?_
          unfold ByteEnds
          rintro e w2 ⟨rfl, hp2, ho2⟩
          have hB2 := below_only hB ho2 hB.size (Nat.le_refl _)
          have HO2 := HO.out.only hp (by decide) ho2
          clear HCC HO hp hB hcut
          go_wp2_with fail
          go_roundw
          case rel => exact ⟨j + 1, N, c, D, by omega, by go_num, rfl, by rw [HS2.out], by rw [HS2.out]; exact HO2, by rw [HS2.out]; exact hp2, hB2⟩
          case measure => simp [intOf]; omega
    · obtain rfl : j = bs.length := by omega
      clear ok3 hNl
      go_wp2_with fail
      go_ret
      exact ⟨D, N, c, rfl, HO.out.mono (Nat.le_succ _), hB⟩
end Go.Proofs.Ytepfmmphajdlfab
