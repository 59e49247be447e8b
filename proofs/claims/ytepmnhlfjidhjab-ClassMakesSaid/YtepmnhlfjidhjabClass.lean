/-
  The contracts of class.appendRunes, runes, Has, Right.
-/
import Derived.Test.YtepmnhlfjidhjabClassM
import Derived.Test.YtepmnhlfjidhjabFr
import Derived.Deep.QuietTactic
import Derived.BigQuiet
namespace Go.Proofs.Ytepmnhlfjidhjab
open Go.RowKit Go.Mem

/-- ranges as cells -/
def flatR (l : List (Int × Int)) : List Value := l.flatMap fun g => [.int .i32 g.1, .int .i32 g.2]
theorem flatR_length (l : List (Int × Int)) : (flatR l).length = l.length * 2 := by
  induction l with
  | nil => rfl
  | cons g l ih => simp [flatR] at ih ⊢; omega
theorem flatR_app (l m : List (Int × Int)) : flatR (l ++ m) = flatR l ++ flatR m := by simp [flatR]
theorem flatR_cons (g : Int × Int) (l : List (Int × Int)) : flatR (g :: l) = .int .i32 g.1 :: .int .i32 g.2 :: flatR l := rfl
theorem flatR_one (l : List (Int × Int)) : ∀ u ∈ flatR l, u.oneCell' = true := by
  intro u hu
  obtain ⟨g, _, hg⟩ := List.mem_flatMap.1 hu
  rcases List.mem_cons.1 hg with rfl | hg
  · rfl
  · rw [List.mem_singleton.1 hg]; rfl
theorem flatR_at (l : List (Int × Int)) (k : Nat) (g : Int × Int) (h : l[k]? = some g) : (flatR l)[k * 2]? = some (.int .i32 g.1) ∧ (flatR l)[k * 2 + 1]? = some (.int .i32 g.2) := by
  induction l generalizing k with
  | nil => simp at h
  | cons f l ih =>
    cases k with
    | zero => simp at h; subst h; exact ⟨rfl, rfl⟩
    | succ k =>
      have := ih k (by simpa using h)
      rw [flatR_cons, show (k + 1) * 2 = k * 2 + 1 + 1 by omega]
      simpa using this
/-- the k-th range's cells -/
theorem Sl.range {w : World} {A : Option Addr} {l : List (Int × Int)} (h : Sl w A (flatR l)) {k : Nat} {g : Int × Int} (hk : l[k]? = some g) : ∃ b o, A = some ⟨b, o, none⟩ ∧ w.cell? ⟨b, o + k * 2, none⟩ = some (.int .i32 g.1) ∧ w.cell? ⟨b, o + k * 2 + 1, none⟩ = some (.int .i32 g.2) := by
  obtain ⟨h1, h2⟩ := flatR_at l k g hk
  obtain ⟨b, o, e, c1⟩ := h _ _ h1
  obtain ⟨b2, o2, e2, c2⟩ := h _ _ h2
  obtain ⟨rfl, rfl⟩ : b = b2 ∧ o = o2 := by rw [e] at e2; injection e2 with e2; injection e2 with e2 e3; exact ⟨e2, e3⟩
  exact ⟨b, o, e, c1, by rw [Nat.add_assoc]; exact c2⟩
theorem infoR : (Try.prog.info? 61).map (fun i => (i.zero, i.size, i.bytes)) = some (some (.agg #[.int .i32 0, Value.int .i32 0]), 2, 8) := by kernel_rfl
/-- numbers of 32 bits -/
def In32 (l : List (Int × Int)) : Prop := ∀ g ∈ l, (-2147483648 ≤ g.1 ∧ g.1 ≤ 2147483647) ∧ -2147483648 ≤ g.2 ∧ g.2 ≤ 2147483647
theorem srcR {w : World} {A : Option Addr} {n c : Nat} {l : List (Int × Int)} (h : Sl w A (flatR l)) (hl : l.length = n) : Src Try.prog 2 58 (.slice A n c) n (flatR l) w :=
  srcOfSl Try.underlying58 (by rw [flatR_length, hl]) (fun e => by have : l = [] := List.eq_nil_of_length_eq_zero (by rw [hl]; exact e); rw [this]; rfl) h (fun e => by have h0 := h.none_nil e; have h1 := flatR_length l; rw [h0] at h1; simp at h1; omega) (flatR_one _)

/-- a list of ranges of the call's own -/
def RangesEnd (w0 : World) (B : Nat) (l : List (Int × Int)) (e : Ending) (w' : World) : Prop := ∃ (D : Option Addr) (c : Nat), e = .returned (.slice D l.length c) ∧ OwnB w' B 61 2 D l.length c (flatR l) ∧ Below B w0 w'

/-- .. and only D's block has turned -/
def RangesKeep (w0 w : World) (B : Nat) (D : Option Addr) (l : List (Int × Int)) (e : Ending) (w' : World) : Prop := ∃ (D' : Option Addr) (c : Nat), e = .returned (.slice D' l.length c) ∧ OwnB w' B 61 2 D' l.length c (flatR l) ∧ Below B w0 w' ∧ (∀ g, g < w.heap.size → D ≠ some ⟨g, 0, none⟩ → w'.heap[g]? = w.heap[g]?) ∧ (D' = D ∨ ∃ g, D' = some ⟨g, 0, none⟩ ∧ w.heap.size ≤ g) ∧ w.heap.size ≤ w'.heap.size
theorem alloc3_at (w : World) (a b c : Obj) (g : Nat) (h : g < w.heap.size) : (((w.alloc a).alloc b).alloc c).heap[g]? = w.heap[g]? := by
  rw [Below.heap_alloc _ _ _ (by simp; omega), Below.heap_alloc _ _ _ (by simp; omega), Below.heap_alloc _ _ _ h]
theorem alloc2_at (w : World) (a b : Obj) (g : Nat) (h : g < w.heap.size) : ((w.alloc a).alloc b).heap[g]? = w.heap[g]? := by
  rw [Below.heap_alloc _ _ _ (by simp; omega), Below.heap_alloc _ _ _ h]
set_option maxRecDepth 100000 in
set_option maxHeartbeats 1600000 in
theorem appendRunes_calls (B : Nat) (D : Option Addr) (k cap : Nat) (l : List (Int × Int)) (g : Int × Int) (lo hi : Int) (w0 w : World) (hg : (-2147483648 ≤ g.1 ∧ g.1 ≤ 2147483647) ∧ -2147483648 ≤ g.2 ∧ g.2 ≤ 2147483647) (hk : l.length = k) (ho : OwnB w B 61 2 D k cap (flatR l)) (hkm : k ≤ 100000000) (hbel : Below B w0 w) (hBs : B ≤ w.heap.size) :
    Calls Try.prog 45 #[.slice D k cap, .agg #[.int .i32 g.1, .int .i32 g.2], .int .i32 lo, .int .i32 hi] w (RangesKeep w0 w B D (l ++ Cls.part g lo hi)) := by
  subst hk
  obtain ⟨i0, hii, hz0, hz1, hz2⟩ := info_parts infoR
  obtain ⟨g1, g2⟩ := g
  simp only at hg ⊢
  have hb1 := hbel.alloc hBs (.cells #[.int .i32 g1, .int .i32 g2] 61)
  obtain ⟨x, hx⟩ : ∃ x, (if g1 < lo then lo else g1) = x := ⟨_, rfl⟩
  obtain ⟨y, hy⟩ : ∃ y, (if hi < g2 then hi else g2) = y := ⟨_, rfl⟩
  have HP : Hid (Cls.part (g1, g2) lo hi = if x ≤ y then [(x, y)] else []) := (show _ = _ by
    unfold Cls.part
    have e1 : max g1 lo = x := by rw [← hx]; split <;> omega
    have e2 : min g2 hi = y := by rw [← hy]; split <;> omega
    simp only [e1, e2])
  by_cases hp : x ≤ y
  · have HV : Hid (l ++ Cls.part (g1, g2) lo hi = l ++ [(x, y)]) := (show _ = _ by rw [HP.out, if_pos hp])
    have HO := Lib.hid (((ho.alloc (.cells #[.int .i32 g1, .int .i32 g2] 61)).alloc (.cells #[.int .i32 x, .int .i32 y] 61)).alloc (.cells #[.int .i32 x, .int .i32 y] 61))
    have hb2 := hb1.alloc (by simp; omega) (.cells #[.int .i32 x, .int .i32 y] 61)
    have hb3 := hb2.alloc (by simp; omega) (.cells #[.int .i32 x, .int .i32 y] 61)
    have HSR : Hid (Src Try.prog 2 58 (.slice (some ⟨w.heap.size + 1 + 1, 0, none⟩) 1 1) 1 (flatR [(x, y)]) (((w.alloc (.cells #[.int .i32 g1, .int .i32 g2] 61)).alloc (.cells #[.int .i32 x, .int .i32 y] 61)).alloc (.cells #[.int .i32 x, .int .i32 y] 61))) := (show Src _ _ _ _ _ _ _ from srcR (Sl.new (by simp) rfl) rfl)
    clear hb1 hb2 HP ho hbel
    go_enter Try.func45, Try.ntmps45
    go_wp2_with (at_builtin; refine wpList_append_ownK (o := ⟨some 28, _, _, _, _, _⟩) rfl (.tmp 25) (.tmp 27) 58 58 rfl 61 i0 (.agg #[.int .i32 0, Value.int .i32 0]) 2 8 Try.underlying58 hii hz0 hz1 hz2 rfl B D l.length cap (flatR l) rfl HO.out (.slice (some ⟨w.heap.size + 1 + 1, 0, none⟩) 1 1) rfl 1 (flatR [(x, y)]) HSR.out (by omega) (by omega) w0 hb3 (by simp; omega) ?_)
    intro w3 D3 c3 HO3 HK3 hb4 hsz3
    have HFin : Hid (RangesKeep w0 w B D (l ++ Cls.part (g1, g2) lo hi) (.returned (.slice D3 (l.length + 1) c3)) w3) := (show RangesKeep _ _ _ _ _ _ _ from by
      rw [HV.out]
      refine ⟨D3, c3, by rw [List.length_append]; rfl, by rw [List.length_append, flatR_app]; exact HO3.out, hb4, fun g hg hne => (HK3.out.1 g (by simp; omega) hne).trans (alloc3_at w _ _ _ g hg), ?_, ?_⟩
      · rcases HK3.out.2 with h | h
        · exact .inl h
        · exact .inr ⟨_, h, by simp; omega⟩
      · omega)
    clear HO3 HK3 hb4 hsz3 HO HSR hb3
    go_wp2_with fail
    go_ret
    exact HFin.out
  · have HV : Hid (l ++ Cls.part (g1, g2) lo hi = l) := (show _ = _ by rw [HP.out, if_neg hp, List.append_nil])
    have hb2 := hb1.alloc (by simp; omega) (.cells #[.int .i32 x, .int .i32 y] 61)
    have HFin : Hid (RangesKeep w0 w B D (l ++ Cls.part (g1, g2) lo hi) (.returned (.slice D l.length cap)) ((w.alloc (.cells #[.int .i32 g1, .int .i32 g2] 61)).alloc (.cells #[.int .i32 x, .int .i32 y] 61))) := (show RangesKeep _ _ _ _ _ _ _ from by rw [HV.out]; exact ⟨D, cap, rfl, (ho.alloc _).alloc _, hb2, fun g hg _ => alloc2_at w _ _ g hg, .inl rfl, by simp; omega⟩)
    clear hb1 hb2 HP ho hbel
    go_enter Try.func45, Try.ntmps45
    go_wp2_with fail
    go_ret
    exact HFin.out

set_option maxHeartbeats 1600000 in
theorem compare_calls (a b : Int) (w : World) : Calls Try.prog 48 #[.int .i32 a, .int .i32 b] w fun e w' => e = .returned (.int .i64 (if a < b then -1 else if b < a then 1 else 0)) ∧ w = w' := by
  have e1 : (a != a) = false := by simp
  have e2 : (b != b) = false := by simp
  by_cases h1 : a < b
  · rw [if_pos h1]
    go_enter Try.func48, Try.ntmps48
    go_wp2
    go_ret
    exact ⟨rfl, rfl⟩
  · rw [if_neg h1]
    by_cases h2 : b < a
    · rw [if_pos h2]
      go_enter Try.func48, Try.ntmps48
      go_wp2
      go_ret
      exact ⟨rfl, rfl⟩
    · rw [if_neg h2]
      go_enter Try.func48, Try.ntmps48
      go_wp2
      go_ret
      exact ⟨rfl, rfl⟩

def hasR (l : List (Int × Int)) (r : Int) : Bool := l.any fun g => decide (g.1 ≤ r) && decide (r ≤ g.2)
theorem hasR_mem (l : List (Int × Int)) (r : Int) : hasR l r = true ↔ Cls.Mem l r := by
  unfold hasR Cls.Mem
  simp
set_option maxRecDepth 100000 in
set_option maxHeartbeats 1600000 in
theorem has_calls (A : Option Addr) (n c : Nat) (l : List (Int × Int)) (r : Int) (w : World) (hl : l.length = n) (hn : n ≤ 9223372036854775807) (hs : Sl w A (flatR l)) :
    Calls Try.prog 34 #[.slice A n c, .int .i32 r] w fun e w' => e = .returned (.bool (hasR l r)) ∧ Below w.heap.size w w' := by
  subst hl
  have HS := Lib.hid hs
  clear hs
  have HH0 : Hid (hasR l r = hasR (l.drop 0) r) := (show _ = _ from rfl)
  go_enter Try.func34, Try.ntmps34
  go_wp2_with fail
  go_loopw [6, 9] (fun _ i wr => ∃ k : Nat, k ≤ l.length ∧ i = .int .i64 k ∧ Hid (hasR l r = hasR (l.drop k) r) ∧ Below w.heap.size w wr) (fun _ i _ => l.length - (intOf i).toNat)
  case atStart => exact ⟨0, Nat.zero_le _, rfl, HH0, Below.refl _ _⟩
  case round =>
    clear HH0
    obtain ⟨k, hk, rfl, HH, hB⟩ := hrel
    by_cases hlt : k < l.length
    · have hdr := List.drop_eq_getElem_cons hlt
      obtain ⟨b, o, rfl, c1, c2⟩ := Sl.range (HS.out.below hB) (List.getElem?_eq_getElem hlt)
      have HHN : Hid (hasR (l.drop k) r = ((decide (l[k].1 ≤ r) && decide (r ≤ l[k].2)) || hasR (l.drop (k + 1)) r)) := (show _ = _ by rw [hdr]; rfl)
      generalize l[k] = g at *
      obtain ⟨g1, g2⟩ := g
      simp only at c1 c2 HHN
      have i0 : (0 : Int) ≤ (k : Int) := by omega
      have i1 : (k : Int) < (l.length : Int) := by omega
      have hB2 := hB.alloc hB.size (.cells #[.int .i32 g1, .int .i32 g2] 61)
      clear hdr hB
      by_cases h1 : g1 ≤ r
      · by_cases h2 : r ≤ g2
        · have HF : Hid (hasR l r = true) := (show _ = _ by rw [HH.out, HHN.out, decide_eq_true h1, decide_eq_true h2]; rfl)
          go_wp2_with fail
          go_ret
          exact ⟨by rw [HF.out]; rfl, hB2⟩
        · have HN : Hid (hasR l r = hasR (l.drop (k + 1)) r) := (show _ = _ by rw [HH.out, HHN.out, decide_eq_false h2, Bool.and_false]; rfl)
          go_wp2_with fail
          go_roundw
          case rel => exact ⟨k + 1, by omega, by go_num, HN, hB2⟩
          case measure => simp [intOf]; omega
      · have HN : Hid (hasR l r = hasR (l.drop (k + 1)) r) := (show _ = _ by rw [HH.out, HHN.out, decide_eq_false h1]; rfl)
        go_wp2_with fail
        go_roundw
        case rel => exact ⟨k + 1, by omega, by go_num, HN, hB2⟩
        case measure => simp [intOf]; omega
    · have HF : Hid (hasR l r = false) := (show _ = _ by rw [HH.out, List.drop_eq_nil_of_le (by omega)]; rfl)
      go_wp2_with fail
      go_ret
      exact ⟨by rw [HF.out]; rfl, hB⟩
end Go.Proofs.Ytepmnhlfjidhjab
