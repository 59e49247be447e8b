/-
  The contract of yard's named: the number of the file with a name.
-/
import Derived.Test.YtbmgeomndfodpaaYardFree
namespace Go.Tab
theorem At.of_get {α : Type} {lt : α → α → Bool} (ho : Ord lt) {ks : List α} (hr : Rising lt ks) {i : Nat} {k : α} (h : ks[i]? = some k) : At lt ks k i := by
  refine ⟨Nat.le_of_lt (List.getElem?_eq_some_iff.1 h).1, fun t x ht hx => hr.get ht hx h, fun t x ht hx => ?_⟩
  rcases Nat.lt_or_eq_of_le ht with h1 | rfl
  · cases hc : lt x k with
    | false => rfl
    | true => have := ho.tr _ _ _ (hr.get h1 h hx) hc; rw [ho.irr] at this; cases this
  · rw [h] at hx; injection hx with hx; subst hx; exact ho.irr _
end Go.Tab
namespace Go.Proofs.Ytbmgeomndfodpaa
open Go.RowKit Go.Mem Go.Proofs

/-- the number of the first file with a name; 0 if there is none -/
def namedL (s : ByteArray) : List (Int × Fl) → Int
  | [] => 0
  | (k, f) :: r => if f.name = s then k else namedL s r
def namedN (ks : List Int) (vs : List Fl) (s : ByteArray) : Int := namedL s (ks.zip vs)
theorem namedL_skip (s : ByteArray) (l : List (Int × Fl)) (i : Nat) (h : ∀ j kf, j < i → l[j]? = some kf → kf.2.name ≠ s) : namedL s l = namedL s (l.drop i) := by
  induction l generalizing i with
  | nil => simp
  | cons x l ih =>
    cases i with
    | zero => rfl
    | succ i =>
      have h0 := h 0 x (by omega) rfl
      obtain ⟨k, f⟩ := x
      show (if f.name = s then k else namedL s l) = _
      rw [if_neg h0]
      exact ih i (fun j kf hj hkf => h (j + 1) kf (by omega) (by simpa using hkf))

set_option maxRecDepth 100000 in
set_option maxHeartbeats 1600000 in
theorem named_calls (B y pF pT : Nat) (DK DV : Option Addr) (ks : List Int) (vs : List Fl) (s : ByteArray) (w : World) (hy : Blk w y 95 [.pointer (some ⟨pF, 0, none⟩), .pointer (some ⟨pT, 0, none⟩)]) (h : TbIF w B pF DK DV ks vs) (hr : Tab.Rising ltI ks) (hn : ks.length ≤ 1000000) :
    Calls Try.prog 50 #[.pointer (some ⟨y, 0, none⟩), .string s] w fun e w' => e = .returned (.int .i64 (namedN ks vs s)) ∧ Below w.heap.size w w' := by
  have HK := Lib.hid (keysIF_calls B pF DK DV ks vs w h hn)
  have c0 := hy.cell 0
  simp only [List.getElem?_cons_zero] at c0
  have heq : ks.length = vs.length := by obtain ⟨_, _, _, he⟩ := h; exact he
  have HT := Lib.hid h
  have HY := Lib.hid hy
  have HR := Lib.hid hr
  clear h hy hr
  go_enter Try.func50, Try.ntmps50
  go_wp2_with fail
  refine HK.out.mono ?_
  rintro e w1 ⟨D, c, rfl, o1, b1⟩
  have HO := Lib.hid o1
  have HB := Lib.hid b1
  have HC := Lib.hid hn
  obtain ⟨n, hnl⟩ : ∃ n, n = ks.length := ⟨_, rfl⟩
  have HL := Lib.hid hnl
  have HQ := Lib.hid heq
  rw [← hnl] at hn ⊢
  clear o1 b1 HK c0 hnl heq
  go_wp2_with fail
  go_loopw [15] (fun i wr => ∃ (k : Nat), k ≤ n ∧ i = .int .i64 k ∧ Hid (Below w1.heap.size w1 wr) ∧ Hid (∀ j kf, j < k → (ks.zip vs)[j]? = some kf → kf.2.name ≠ s)) (fun i _ => n - (intOf i).toNat)
  case atStart => exact ⟨0, Nat.zero_le _, rfl, Below.refl _ _, fun j _ hj => absurd hj (Nat.not_lt_zero _)⟩
  case round =>
    obtain ⟨k, hk, rfl, HW, HE⟩ := hrel
    by_cases hlt : k < n
    · have i0 : (0 : Int) ≤ (k : Int) := by omega
      have i1 : (k : Int) < (n : Int) := by omega
      have hkl : k < ks.length := by rw [← HL.out]; exact hlt
      have hkv : k < vs.length := by rw [← HQ.out]; exact hkl
      have hw1 : IntKind.i64.wrap ((k : Int) + 1) = (k : Int) + 1 := by rw [IntKind.wrap_i64]; omega
      have hww : Below w.heap.size w wr := HB.out.trans (HW.out.mono HB.out.size)
      have hyr := HY.out.below hww HY.out.lt
      have hor := HO.out.below HW.out
      obtain ⟨b, o, rfl, hc⟩ := hor.sl.at_ (k := k) (by simpa using hkl)
      rw [List.getElem_map] at hc
      have c0 := hyr.cell 0
      simp only [List.getElem?_cons_zero] at c0
      have hgk : ks[k]? = some ks[k] := List.getElem?_eq_getElem hkl
      have HG := Lib.hid (getIF_calls B pF DK DV ks vs ks[k] k wr (HT.out.below hww) HR.out (Tab.At.of_get ordI HR.out hgk) (by rw [← HL.out]; exact hn))
      unfold GetEndsIF at HG
      rw [if_pos hgk, decide_eq_true hgk, show vs.getD k zFl = vs[k] by simp [List.getD, hkv]] at HG
      have hz : (ks.zip vs)[k]? = some (ks[k], vs[k]) := by rw [List.getElem?_zip_eq_some]; exact ⟨hgk, List.getElem?_eq_getElem hkv⟩
      have HN := Lib.hid (show vs[k].name ≠ s → ∀ j kf, j < k + 1 → (ks.zip vs)[j]? = some kf → kf.2.name ≠ s from fun hne j kf hj hkf => by
        rcases Nat.lt_or_eq_of_le (Nat.le_of_lt_succ hj) with h1 | rfl
        · exact HE.out j kf h1 hkf
        · rw [hz] at hkf; injection hkf with hkf; subst hkf; exact hne)
      have HF := Lib.hid (show vs[k].name = s → namedN ks vs s = ks[k] from fun he => by
        unfold namedN
        rw [namedL_skip s _ k HE.out, List.drop_eq_getElem_cons (by rw [List.length_zip]; omega), List.getElem_zip]
        show (if vs[k].name = s then ks[k] else _) = _
        rw [if_pos he])
      generalize ks[k] = x at *
      generalize vs[k] = v at *
      obtain ⟨v1, v2, v3, v4⟩ := v
      unfold Fl.val at HG
      clear hgk hz hor hyr
      go_wp2_with fail
      refine HG.out.mono ?_
      rintro e w2 ⟨rfl, hb2⟩
      have HB2 := Lib.hid hb2
      clear HG hb2 hww c0 hc
      have HB3 := Lib.hid (show Below w1.heap.size w1 (w2.alloc (.cells #[.string v1, .slice v2 v3 v4] 91)) from
        (HW.out.trans (HB2.out.mono HW.out.size)).alloc (Nat.le_trans HW.out.size HB2.out.size) _)
      by_cases hv : v1 = s
      · have e1 := HF.out hv
        clear HF HN
        subst hv
        go_wp2_with fail
        go_ret
        exact ⟨by rw [e1]; rfl, HB.out.trans (HB3.out.mono HB.out.size)⟩
      · have HN' := Lib.hid (HN.out hv)
        have hv' : (v1.toList == s.toList) = false := by
          rw [Lib.toList_data, Lib.toList_data]
          exact beq_false_of_ne (fun e => hv (by obtain ⟨a⟩ := v1; obtain ⟨b⟩ := s; exact congrArg ByteArray.mk (Array.toList_inj.1 e)))
        clear HF HN
        go_wp2_with fail
        exact ⟨⟨k + 1, hlt, rfl, HB3, HN'⟩, by simp [intOf]; omega⟩
    · have i1 : ¬ ((k : Int) < (n : Int)) := by omega
      have e1 : namedN ks vs s = 0 := by
        unfold namedN
        rw [namedL_skip s _ k HE.out, List.drop_eq_nil_of_le (by rw [List.length_zip, ← HL.out]; omega)]
        rfl
      go_wp2_with fail
      go_ret
      exact ⟨by first | rfl | (rw [e1]; rfl), HB.out.trans (HW.out.mono HB.out.size)⟩
end Go.Proofs.Ytbmgeomndfodpaa
