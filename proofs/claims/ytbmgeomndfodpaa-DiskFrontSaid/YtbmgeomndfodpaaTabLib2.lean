/-
  slices.Delete, Clone, BinarySearch at numbers and at texts, on a slice of the call's own.
-/
import Derived.Test.YtbmgeomndfodpaaTabLib
import Derived.Shelf.Spec.SearchS
namespace Go.Tab
/-- place i of x in rising keys -/
def At {α : Type} (lt : α → α → Bool) (ks : List α) (x : α) (i : Nat) : Prop := i ≤ ks.length ∧ (∀ t k, t < i → ks[t]? = some k → lt k x = true) ∧ ∀ t k, i ≤ t → ks[t]? = some k → lt k x = false
def Rising {α : Type} (lt : α → α → Bool) (ks : List α) : Prop := ks.Pairwise fun a b => lt a b = true
theorem Rising.get {α : Type} {lt : α → α → Bool} {ks : List α} (h : Rising lt ks) {s t : Nat} {a b : α} (hst : s < t) (ha : ks[s]? = some a) (hb : ks[t]? = some b) : lt a b = true := by
  obtain ⟨h1, rfl⟩ := List.getElem?_eq_some_iff.1 ha
  obtain ⟨h2, rfl⟩ := List.getElem?_eq_some_iff.1 hb
  exact List.pairwise_iff_getElem.1 h s t h1 h2 hst
/-- what an order must be -/
structure Ord {α : Type} (lt : α → α → Bool) : Prop where
  irr : ∀ a, lt a a = false
  tr : ∀ a b c, lt a b = true → lt b c = true → lt a c = true
  tot : ∀ a b, lt a b = false → lt b a = false → a = b
variable {α : Type} {lt : α → α → Bool}
theorem At.ex (ho : Ord lt) (ks : List α) (hr : Rising lt ks) (x : α) : ∃ i, At lt ks x i := by
  induction ks with
  | nil => exact ⟨0, Nat.le_refl _, fun t k h => by omega, fun t k _ h => by simp at h⟩
  | cons a ks ih =>
    obtain ⟨h1, h2⟩ := List.pairwise_cons.1 hr
    cases hl : lt a x with
    | true =>
      obtain ⟨i, p1, p2, p3⟩ := ih h2
      refine ⟨i + 1, by simp; omega, fun t k ht hk => ?_, fun t k ht hk => ?_⟩
      · cases t with
        | zero => simp at hk; rw [← hk]; exact hl
        | succ t => exact p2 t k (by omega) (by simpa using hk)
      · cases t with
        | zero => omega
        | succ t => exact p3 t k (by omega) (by simpa using hk)
    | false =>
      refine ⟨0, Nat.zero_le _, fun t k h => by omega, fun t k _ hk => ?_⟩
      cases t with
      | zero => simp at hk; rw [← hk]; exact hl
      | succ t =>
        have hm : k ∈ ks := List.mem_of_getElem? (by simpa using hk)
        cases hc : lt k x with
        | false => rfl
        | true => have := ho.tr _ _ _ (h1 k hm) hc; rw [hl] at this; cases this
theorem At.mem (ho : Ord lt) {ks : List α} (hr : Rising lt ks) {x : α} {i : Nat} (h : At lt ks x i) : x ∈ ks ↔ ks[i]? = some x := by
  constructor
  · intro hm
    obtain ⟨t, ht⟩ := List.mem_iff_getElem?.1 hm
    rcases Nat.lt_trichotomy t i with h1 | h1 | h1
    · have := h.2.1 t x h1 ht
      rw [ho.irr] at this; cases this
    · rw [← h1]; exact ht
    · have hi : i < ks.length := by have := (List.getElem?_eq_some_iff.1 ht).1; omega
      have h2 := h.2.2 i _ (Nat.le_refl _) (List.getElem?_eq_getElem hi)
      have h3 := hr.get h1 (List.getElem?_eq_getElem hi) ht
      rw [h2] at h3; cases h3
  · exact fun h1 => List.mem_of_getElem? h1
end Go.Tab
namespace Go.Proofs.Ytbmgeomndfodpaa
open Go.RowKit Go.Mem Go.Proofs Go.Shelf
shelf_lay Lays2.n26 Nm2 26 at Try as searchS
theorem own_of_row {w : World} {B : Nat} {e : TypeId} {v : Value} {n : Nat} {xs : List Value} (h : w.ownsRow B e 1 v n xs) : ∃ D c, v = .slice D n c ∧ OwnB w B e 1 D n c xs ∧ c ≤ 9223372036854775807 := by
  obtain ⟨hl, h2⟩ := h
  rcases h2 with ⟨rfl, rfl⟩ | ⟨g, cap, cur, rfl, hg, hh, hn, hmx, hs, ht⟩
  · have : xs = [] := List.eq_nil_of_length_eq_zero (by simpa using hl)
    subst this
    exact ⟨none, 0, rfl, OwnB.nil _ _ _ _, by decide⟩
  · refine ⟨some ⟨g, 0, none⟩, cap, rfl, ⟨hl, hn, .inr ⟨g, cur.toList.drop n, rfl, hg, ?_, by simp; omega⟩⟩, by assumption⟩
    unfold Blk
    rw [hh, ← ht, Nat.mul_one, List.take_append_drop]
def ltI (a b : Int) : Bool := decide (a < b)
theorem ordI : Tab.Ord ltI := ⟨fun a => by simp [ltI], fun a b c h1 h2 => by simp [ltI] at *; omega, fun a b h1 h2 => by simp [ltI] at *; omega⟩
def ltS (a b : ByteArray) : Bool := Op.bytesLess a.toList b.toList
theorem ltS_eq (a b : ByteArray) : ltS a b = decide (a.data.toList < b.data.toList) := by unfold ltS; rw [bytesLess_eq, Lib.toList_data, Lib.toList_data]

theorem searchI_calls (B : Nat) (D : Option Addr) (n c : Nat) (ks : List Int) (x : Int) (i : Nat) (w : World) (ho : OwnB w B 3 1 D n c (ks.map (Value.int .i64))) (hr : Tab.Rising ltI ks) (hat : Tab.At ltI ks x i) (hn : n ≤ 1000000) :
    Calls Try.prog 85 #[.slice D n c, .int .i64 x] w fun e w' => e = .returned (.tuple #[.int .i64 (i : Int), .bool (decide (ks[i]? = some x))]) ∧ ∃ q, w' = w.drewN q := by
  have hl : ks.length = n := by have := ho.len; simpa using this
  rcases ho.2.2 with ⟨rfl, h0, hc0⟩ | ⟨g, sp, rfl, hgB, hb, hcap⟩
  · obtain rfl : n = 0 := h0
    obtain rfl : ks = [] := List.eq_nil_of_length_eq_zero hl
    obtain rfl : i = 0 := by have := hat.1; simpa using this
    exact (Any.slices_BinarySearch_int_empty searchI none c x w).mono (by rintro e w' ⟨h1, h2⟩; exact ⟨h1, 0, h2⟩)
  · have hle : ks.Pairwise (· ≤ ·) := hr.imp (fun {a b} h => by simp [ltI] at h; omega)
    have ht : ks.take n = ks := List.take_of_length_le (by omega)
    have h := Any.slices_BinarySearch_int searchI g 0 n c ks x w (by omega) (by omega) (fun j hj => by rw [Nat.zero_add, hb.cell, List.getElem?_append_left (by simpa using hj), List.getElem?_map, List.getElem?_eq_getElem hj]; simp [List.getD, hj]) (by rw [ht]; exact hle)
    rw [ht] at h
    have hcnt : ks.countP (· < x) = i := by
      have e : ks.countP (· < x) = (ks.take i).countP (· < x) + (ks.drop i).countP (· < x) := by rw [← List.countP_append, List.take_append_drop]
      have e1 : (ks.take i).countP (· < x) = i := by
        have : (ks.take i).countP (· < x) = (ks.take i).length := by
          rw [List.countP_eq_length]
          intro a ha
          obtain ⟨t, htt⟩ := List.mem_iff_getElem?.1 ha
          have hti : t < i := by have := (List.getElem?_eq_some_iff.1 htt).1; simp at this; omega
          rw [List.getElem?_take, if_pos hti] at htt
          have := hat.2.1 t a hti htt
          simpa [ltI] using this
        rw [this, List.length_take]; have := hat.1; omega
      have e2 : (ks.drop i).countP (· < x) = 0 := by
        rw [List.countP_eq_zero]
        intro a ha
        obtain ⟨t, htt⟩ := List.mem_iff_getElem?.1 ha
        rw [List.getElem?_drop] at htt
        have := hat.2.2 (i + t) a (by omega) htt
        simpa [ltI] using this
      omega
    have hcon : ks.contains x = decide (ks[i]? = some x) := by
      have := hat.mem ordI hr
      by_cases h1 : ks[i]? = some x
      · rw [decide_eq_true h1]; simpa using this.2 h1
      · rw [decide_eq_false h1]
        have h2 : ¬ x ∈ ks := fun hm => h1 (this.1 hm)
        simpa using h2
    rw [hcnt, hcon] at h
    exact h

theorem ordS : Tab.Ord ltS := by
  refine ⟨fun a => ?_, fun a b c h1 h2 => ?_, fun a b h1 h2 => ?_⟩
  · rw [ltS_eq]; simp [List.lt_irrefl]
  · rw [ltS_eq, decide_eq_true_iff] at *; exact List.lt_trans h1 h2
  · rw [ltS_eq, decide_eq_false_iff_not] at *
    have h3 : a.data.toList ≤ b.data.toList := h2
    have h4 : b.data.toList ≤ a.data.toList := h1
    have h5 := List.le_antisymm h3 h4
    exact Go.WideShapes.bytes_inj h5
theorem searchS_calls (B : Nat) (D : Option Addr) (n c : Nat) (ks : List ByteArray) (x : ByteArray) (i : Nat) (w : World) (ho : OwnB w B 9 1 D n c (ks.map Value.string)) (hr : Tab.Rising ltS ks) (hat : Tab.At ltS ks x i) (hn : n ≤ 1000000) :
    Calls Try.prog 94 #[.slice D n c, .string x] w fun e w' => e = .returned (.tuple #[.int .i64 (i : Int), .bool (decide (ks[i]? = some x))]) ∧ ∃ q, w' = w.drewN q := by
  have hl : ks.length = n := by have := ho.len; simpa using this
  rcases ho.2.2 with ⟨rfl, h0, hc0⟩ | ⟨g, sp, rfl, hgB, hb, hcap⟩
  · obtain rfl : n = 0 := h0
    obtain rfl : ks = [] := List.eq_nil_of_length_eq_zero hl
    obtain rfl : i = 0 := by have := hat.1; simpa using this
    exact (Any2.slices_BinarySearch_string_empty searchS none c x w).mono (by rintro e w' ⟨h1, h2⟩; exact ⟨h1, 0, h2⟩)
  · have h := Any2.slices_BinarySearch_string searchS g 0 n c (fun t => ks.getD t x) x w (by omega) (fun j hj => by rw [Nat.zero_add, hb.cell, List.getElem?_append_left (by simp; omega), List.getElem?_map, List.getElem?_eq_getElem (by omega)]; simp [List.getD, show j < ks.length by omega])
    have hgo : Lib.bsGo (fun t => Op.bytesLess (ks.getD t x).toList x.toList) n 0 n = i := by
      refine Lib.bsGo_spec _ i (fun t ht => ?_) (fun t ht => ?_) n 0 n (by omega) (Nat.zero_le _) (by have := hat.1; omega)
      · have htl : t < ks.length := by have := hat.1; omega
        have := hat.2.1 t _ ht (List.getElem?_eq_getElem htl)
        simpa [List.getD, htl, ltS] using this
      · by_cases htl : t < ks.length
        · have := hat.2.2 t _ ht (List.getElem?_eq_getElem htl)
          simpa [List.getD, htl, ltS] using this
        · have h1 : ks.getD t x = x := by simp [List.getD, List.getElem?_eq_none (show ks.length ≤ t by omega)]
          rw [h1]
          exact ordS.irr x
    rw [hgo] at h
    have hf : decide (i < n ∧ ks.getD i x = x) = decide (ks[i]? = some x) := by
      congr 1
      apply propext
      constructor
      · rintro ⟨h1, h2⟩
        have hil : i < ks.length := by omega
        simp only [List.getD, List.getElem?_eq_getElem hil, Option.getD_some] at h2
        rw [List.getElem?_eq_getElem hil, h2]
      · intro h1
        have h2 := (List.getElem?_eq_some_iff.1 h1).1
        exact ⟨by omega, by simp [List.getD, h1]⟩
    rw [hf] at h
    exact h

theorem deleteI_calls (B : Nat) (D : Option Addr) (n c : Nat) (ks : List Int) (i : Nat) (w0 w : World) (ho : OwnB w B 3 1 D n c (ks.map (Value.int .i64))) (hi : i < n) (hc63 : c ≤ 9223372036854775807) (hbel : Below B w0 w) (hBs : B ≤ w.heap.size) :
    Calls Try.prog 88 #[.slice D n c, .int .i64 (i : Int), .int .i64 ((i : Int) + 1)] w fun e w' => e = .returned (.slice D (n - 1) c) ∧ OwnB w' B 3 1 D (n - 1) c ((ks.take i ++ ks.drop (i + 1)).map (Value.int .i64)) ∧ Kept w w' D D ∧ Below B w0 w' ∧ w.heap.size ≤ w'.heap.size := by
  have hl : ks.length = n := by have := ho.len; simpa using this
  have hnc := ho.le
  rcases ho.2.2 with ⟨rfl, h0, hc0⟩ | ⟨g, sp, rfl, hgB, hb, hcap⟩
  · omega
  · have ht : ks.take n = ks := List.take_of_length_le (by omega)
    have h := Any.slices_Delete_int_cells deleteI g 0 n c i (i + 1) ks w (by omega) hnc hc63 (by omega) (by omega) (fun j hj => by rw [Nat.zero_add, hb.cell, List.getElem?_append_left (by simpa using hj), List.getElem?_map, List.getElem?_eq_getElem hj]; simp [List.getD, hj]) (fun j _ => hb.frozen _)
    rw [ht] at h
    have e1 : i + 1 - i = 1 := by omega
    rw [e1] at h
    refine h.mono ?_
    rintro e w' ⟨rfl, q, rfl⟩
    skip
    have hbd : Blk (w.drewN q) g 3 (ks.map (Value.int .i64) ++ sp) := hb
    obtain ⟨k1, k2, k3⟩ := heap_setCells g ((ks.take i ++ ks.drop (i + 1) ++ List.replicate 1 (0 : Int)).map (Value.int .i64)) 0 (w.drewN q) (ks.map (Value.int .i64) ++ sp) 3 hbd (by simp; omega)
    have hnew : List.take 0 (ks.map (Value.int .i64) ++ sp) ++ (((ks.take i ++ ks.drop (i + 1) ++ List.replicate 1 (0 : Int)).map (Value.int .i64)) ++ List.drop (0 + ((ks.take i ++ ks.drop (i + 1) ++ List.replicate 1 (0 : Int)).map (Value.int .i64)).length) (ks.map (Value.int .i64) ++ sp)) = ((ks.take i ++ ks.drop (i + 1)).map (Value.int .i64)) ++ ((Value.int .i64) (0 : Int) :: sp) := by
      have h2 : List.drop (0 + ((ks.take i ++ ks.drop (i + 1) ++ List.replicate 1 (0 : Int)).map (Value.int .i64)).length) (ks.map (Value.int .i64) ++ sp) = sp := by
        rw [List.drop_append, List.drop_eq_nil_of_le (by simp; omega), List.nil_append]
        rw [show 0 + ((ks.take i ++ ks.drop (i + 1) ++ List.replicate 1 (0 : Int)).map (Value.int .i64)).length - (ks.map (Value.int .i64)).length = 0 by simp; omega, List.drop_zero]
      rw [h2]; simp
    rw [hnew] at k1
    have kk : w.grownBy ((w.drewN q).setCells g 0 ((ks.take i ++ ks.drop (i + 1) ++ List.replicate 1 (0 : Int)).map (Value.int .i64))) (some g) := ⟨k2.os, k2.tape, k2.output, k2.size, k2.block⟩
    exact ⟨rfl, ⟨by simp; omega, by omega, .inr ⟨g, (Value.int .i64) (0 : Int) :: sp, rfl, hgB, k1, by simp; omega⟩⟩, ⟨fun k hk hd => kk.block k hk (fun e => hd (by injection e with e; rw [e])), .inl rfl⟩, below_grown hbel kk hBs hgB, kk.size⟩
theorem cloneI_calls (D : Option Addr) (n c : Nat) (ks : List Int) (w : World) (hs : Sl w D (ks.map (Value.int .i64))) (hl : ks.length = n) (hn : n ≤ 1000000) :
    Calls Try.prog 90 #[.slice D n c] w fun e w' => ∃ D' c', e = .returned (.slice D' n c') ∧ OwnB w' w.heap.size 3 1 D' n c' (ks.map (Value.int .i64)) ∧ Below w.heap.size w w' ∧ c' ≤ 9223372036854775807 := by
  subst hl
  cases D with
  | none =>
    have hk : ks = [] := by
      have := hs.none_nil rfl
      simpa using this
    subst hk
    refine (Any.slices_Clone_int_nil cloneI 0 c w).mono ?_
    rintro e w' ⟨rfl, rfl⟩
    exact ⟨none, 0, rfl, OwnB.nil _ _ _ _, Below.refl _ _, by decide⟩
  | some a =>
    by_cases h0 : ks = []
    · subst h0
      refine (Any.slices_Clone_int_zero cloneI a c w).mono ?_
      rintro e w' ⟨v', rfl, h1, _, h2⟩
      obtain ⟨D', c', rfl, h3, h4⟩ := own_of_row h1
      exact ⟨D', c', rfl, h3, h2, h4⟩
    · have hpos : 0 < ks.length := List.length_pos_iff.2 h0
      obtain ⟨b, o, e, _⟩ := hs.at_ (k := 0) (by simpa using hpos)
      injection e with e
      subst e
      refine (Any.slices_Clone_int cloneI b o ks.length c ks w (Nat.le_refl _) (by omega) (fun j hj => ?_)).mono ?_
      · obtain ⟨b2, o2, e2, hc⟩ := hs.at_ (k := j) (by simpa using hj)
        injection e2 with e2
        injection e2 with e2 e3
        subst e2 e3
        rw [hc, List.getElem_map]
        simp [List.getD, hj]
      · rintro e w' ⟨v', rfl, h1, _, h2⟩
        rw [List.take_of_length_le (Nat.le_refl _)] at h1
        obtain ⟨D', c', rfl, h3, h4⟩ := own_of_row h1
        exact ⟨D', c', rfl, h3, h2, h4⟩

theorem deleteS_calls (B : Nat) (D : Option Addr) (n c : Nat) (ks : List ByteArray) (i : Nat) (w0 w : World) (ho : OwnB w B 9 1 D n c (ks.map Value.string)) (hi : i < n) (hc63 : c ≤ 9223372036854775807) (hbel : Below B w0 w) (hBs : B ≤ w.heap.size) :
    Calls Try.prog 113 #[.slice D n c, .int .i64 (i : Int), .int .i64 ((i : Int) + 1)] w fun e w' => e = .returned (.slice D (n - 1) c) ∧ OwnB w' B 9 1 D (n - 1) c ((ks.take i ++ ks.drop (i + 1)).map Value.string) ∧ Kept w w' D D ∧ Below B w0 w' ∧ w.heap.size ≤ w'.heap.size := by
  have hl : ks.length = n := by have := ho.len; simpa using this
  have hnc := ho.le
  rcases ho.2.2 with ⟨rfl, h0, hc0⟩ | ⟨g, sp, rfl, hgB, hb, hcap⟩
  · omega
  · have ht : ks.take n = ks := List.take_of_length_le (by omega)
    have h := Any.slices_Delete_string_cells deleteS g 0 n c i (i + 1) (fun t => ks.getD t ⟨#[]⟩) w hnc hc63 (by omega) (by omega) (fun j hj => by rw [Nat.zero_add, hb.cell, List.getElem?_append_left (by simp; omega), List.getElem?_map, List.getElem?_eq_getElem (by omega)]; simp [List.getD, show j < ks.length by omega]) (fun j _ => hb.frozen _)
    have e1 : i + 1 - i = 1 := by omega
    rw [e1] at h
    refine h.mono ?_
    rintro e w' ⟨rfl, q, rfl⟩
    have hst : (Lib.strsOf (fun t => ks.getD t ⟨#[]⟩) n) = ks.map (fun b => b.data.toList) := by
      unfold Lib.strsOf
      apply List.ext_getElem
      · simp [hl]
      · intro a b1 b2
        simp at b1 b2
        simp [List.getD, show a < ks.length by omega]
    have henc : ((Lib.strsOf (fun t => ks.getD t ⟨#[]⟩) n).take i ++ (Lib.strsOf (fun t => ks.getD t ⟨#[]⟩) n).drop (i + 1) ++ List.replicate 1 []).map encStr = (ks.take i ++ ks.drop (i + 1) ++ List.replicate 1 (⟨#[]⟩ : ByteArray)).map Value.string := by
      rw [hst, ← List.map_take, ← List.map_drop]
      simp [encStr, Function.comp_def]
    rw [henc]
    have hbd : Blk (w.drewN q) g 9 (ks.map Value.string ++ sp) := hb
    obtain ⟨k1, k2, k3⟩ := heap_setCells g ((ks.take i ++ ks.drop (i + 1) ++ List.replicate 1 (⟨#[]⟩ : ByteArray)).map Value.string) 0 (w.drewN q) (ks.map Value.string ++ sp) 9 hbd (by simp; omega)
    have hnew : List.take 0 (ks.map Value.string ++ sp) ++ (((ks.take i ++ ks.drop (i + 1) ++ List.replicate 1 (⟨#[]⟩ : ByteArray)).map Value.string) ++ List.drop (0 + ((ks.take i ++ ks.drop (i + 1) ++ List.replicate 1 (⟨#[]⟩ : ByteArray)).map Value.string).length) (ks.map Value.string ++ sp)) = ((ks.take i ++ ks.drop (i + 1)).map Value.string) ++ (Value.string (⟨#[]⟩ : ByteArray) :: sp) := by
      have h2 : List.drop (0 + ((ks.take i ++ ks.drop (i + 1) ++ List.replicate 1 (⟨#[]⟩ : ByteArray)).map Value.string).length) (ks.map Value.string ++ sp) = sp := by
        rw [List.drop_append, List.drop_eq_nil_of_le (by simp; omega), List.nil_append]
        rw [show 0 + ((ks.take i ++ ks.drop (i + 1) ++ List.replicate 1 (⟨#[]⟩ : ByteArray)).map Value.string).length - (ks.map Value.string).length = 0 by simp; omega, List.drop_zero]
      rw [h2]; simp
    rw [hnew] at k1
    have kk : w.grownBy ((w.drewN q).setCells g 0 ((ks.take i ++ ks.drop (i + 1) ++ List.replicate 1 (⟨#[]⟩ : ByteArray)).map Value.string)) (some g) := ⟨k2.os, k2.tape, k2.output, k2.size, k2.block⟩
    exact ⟨rfl, ⟨by simp; omega, by omega, .inr ⟨g, Value.string (⟨#[]⟩ : ByteArray) :: sp, rfl, hgB, k1, by simp; omega⟩⟩, ⟨fun k hk hd => kk.block k hk (fun e => hd (by injection e with e; rw [e])), .inl rfl⟩, below_grown hbel kk hBs hgB, kk.size⟩
theorem cloneS_calls (D : Option Addr) (n c : Nat) (ks : List ByteArray) (w : World) (hs : Sl w D (ks.map Value.string)) (hl : ks.length = n) (hn : n ≤ 1000000) :
    Calls Try.prog 95 #[.slice D n c] w fun e w' => ∃ D' c', e = .returned (.slice D' n c') ∧ OwnB w' w.heap.size 9 1 D' n c' (ks.map Value.string) ∧ Below w.heap.size w w' ∧ c' ≤ 9223372036854775807 := by
  subst hl
  cases D with
  | none =>
    have hk : ks = [] := by
      have := hs.none_nil rfl
      simpa using this
    subst hk
    refine (Any.slices_Clone_string_nil cloneS 0 c w).mono ?_
    rintro e w' ⟨rfl, rfl⟩
    exact ⟨none, 0, rfl, OwnB.nil _ _ _ _, Below.refl _ _, by decide⟩
  | some a =>
    by_cases h0 : ks = []
    · subst h0
      refine (Any.slices_Clone_string_zero cloneS a c w).mono ?_
      rintro e w' ⟨v', rfl, h1, _, h2⟩
      obtain ⟨D', c', rfl, h3, h4⟩ := own_of_row h1
      exact ⟨D', c', rfl, h3, h2, h4⟩
    · have hpos : 0 < ks.length := List.length_pos_iff.2 h0
      obtain ⟨b, o, e, _⟩ := hs.at_ (k := 0) (by simpa using hpos)
      injection e with e
      subst e
      refine (Any.slices_Clone_string cloneS b o ks.length c ks w (Nat.le_refl _) (by omega) (fun j hj => ?_)).mono ?_
      · obtain ⟨b2, o2, e2, hc⟩ := hs.at_ (k := j) (by simpa using hj)
        injection e2 with e2
        injection e2 with e2 e3
        subst e2 e3
        rw [hc, List.getElem_map]
        simp [List.getD, hj]
      · rintro e w' ⟨v', rfl, h1, _, h2⟩
        rw [List.take_of_length_le (Nat.le_refl _)] at h1
        obtain ⟨D', c', rfl, h3, h4⟩ := own_of_row h1
        exact ⟨D', c', rfl, h3, h2, h4⟩
end Go.Proofs.Ytbmgeomndfodpaa
