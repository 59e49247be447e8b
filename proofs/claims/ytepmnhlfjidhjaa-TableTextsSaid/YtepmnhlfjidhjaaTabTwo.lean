/-
  A table of numbers and one of texts, side by side.
-/
import Derived.Test.YtepmnhlfjidhjaaTabAny
import Derived.Test.YtepmnhlfjidhjaaTabSS
import Derived.Test.YtepmnhlfjidhjaaTabText
namespace Go.Proofs.Ytepmnhlfjidhjaa
open Go.RowKit Go.Mem Go.Proofs Go.Tab

def R64 (n : Int) : Prop := -9223372036854775808 ≤ n ∧ n ≤ 9223372036854775807
theorem txt_ord {a b : Int} (ha : R64 a) (hb : R64 b) : ltS (txt a) (txt b) = ltI a b := txt_le ha.1 ha.2 hb.1 hb.2
theorem txt_inj {a b : Int} (ha : R64 a) (hb : R64 b) (h : txt a = txt b) : a = b := by
  rcases Int.lt_trichotomy a b with h1 | h1 | h1
  · have := txt_lt ha.1 hb.2 h1; rw [h, ordS.irr] at this; cases this
  · exact h1
  · have := txt_lt hb.1 ha.2 h1; rw [h, ordS.irr] at this; cases this
theorem rising_txt {ks : List Int} (hr : Rising ltI ks) (hk : ∀ k ∈ ks, R64 k) : Rising ltS (ks.map txt) := by
  unfold Rising at *
  rw [List.pairwise_map]
  exact hr.imp_of_mem fun {a b} ha hb h => by rw [txt_ord (hk a ha) (hk b hb)]; exact h
theorem at_txt {ks : List Int} {k : Int} {i : Nat} (h : At ltI ks k i) (hk : ∀ k ∈ ks, R64 k) (hr : R64 k) : At ltS (ks.map txt) (txt k) i := by
  refine ⟨by simpa using h.1, fun t x ht hx => ?_, fun t x ht hx => ?_⟩
  · rw [List.getElem?_map] at hx
    obtain ⟨y, hy, rfl⟩ := Option.map_eq_some_iff.1 hx
    rw [txt_ord (hk y (List.mem_of_getElem? hy)) hr]; exact h.2.1 t y ht hy
  · rw [List.getElem?_map] at hx
    obtain ⟨y, hy, rfl⟩ := Option.map_eq_some_iff.1 hx
    rw [txt_ord (hk y (List.mem_of_getElem? hy)) hr]; exact h.2.2 t y ht hy
theorem found_txt {ks : List Int} {k : Int} {i : Nat} (hk : ∀ k ∈ ks, R64 k) (hr : R64 k) : (ks.map txt)[i]? = some (txt k) ↔ ks[i]? = some k := by
  rw [List.getElem?_map]
  constructor
  · intro h
    obtain ⟨y, hy, e⟩ := Option.map_eq_some_iff.1 h
    rw [hy, txt_inj (hk y (List.mem_of_getElem? hy)) hr e]
  · intro h; rw [h]; rfl
theorem own_blk {w : World} {B : Nat} {e : TypeId} {g n c : Nat} {xs : List Value} (h : OwnB w B e 1 (some ⟨g, 0, none⟩) n c xs) : ∃ cs, Blk w g e cs := by
  rcases h.2.2 with ⟨h4, _⟩ | ⟨g', sp, hd, _, hb, _⟩
  · cases h4
  · injection hd with hd; injection hd with hd; subst hd; exact ⟨_, hb⟩
theorem kp_SS {w w' : World} {B B2 p q : Nat} {DK DV EK EV : Option Addr} {ks vs : List Int} {xs ys : List ByteArray} (h : TbII w B p DK DV ks vs) (kp : Kp w w' p DK DV) (hb : TbSS w B2 q EK EV xs ys) : TbSS w' B2 q EK EV xs ys := by
  obtain ⟨_, _, h, _⟩ := h
  obtain ⟨c1, c2, h2, h3⟩ := hb
  have one : ∀ {t : TypeId} {cs : List Value} {g : Nat}, Blk w g t cs → t ≠ 161 → 3 ≠ t → w'.heap[g]? = w.heap[g]? := fun hb h1 h2 => kp _ hb.lt (hb.ne_ h.b h1) (own_ne_blk h.k hb h2) (own_ne_blk h.v hb h2)
  exact ⟨c1, c2, h2.keep (one h2.b (by decide) (by decide)) (fun g hg => by subst hg; obtain ⟨cs, hc⟩ := own_blk h2.k; exact one hc (by decide) (by decide)) (fun g hg => by subst hg; obtain ⟨cs, hc⟩ := own_blk h2.v; exact one hc (by decide) (by decide)), h3⟩
theorem kp_II {w w' : World} {B B2 p q : Nat} {DK DV EK EV : Option Addr} {ks vs : List Int} {xs ys : List ByteArray} (h : TbSS w B p EK EV xs ys) (kp : Kp w w' p EK EV) (hb : TbII w B2 q DK DV ks vs) : TbII w' B2 q DK DV ks vs := by
  obtain ⟨_, _, h, _⟩ := h
  obtain ⟨c1, c2, h2, h3⟩ := hb
  have one : ∀ {t : TypeId} {cs : List Value} {g : Nat}, Blk w g t cs → t ≠ 166 → 9 ≠ t → w'.heap[g]? = w.heap[g]? := fun hb h1 h2 => kp _ hb.lt (hb.ne_ h.b h1) (own_ne_blk h.k hb h2) (own_ne_blk h.v hb h2)
  exact ⟨c1, c2, h2.keep (one h2.b (by decide) (by decide)) (fun g hg => by subst hg; obtain ⟨cs, hc⟩ := own_blk h2.k; exact one hc (by decide) (by decide)) (fun g hg => by subst hg; obtain ⟨cs, hc⟩ := own_blk h2.v; exact one hc (by decide) (by decide)), h3⟩
/-- both tables -/
def PP (w0 W : World) (pa pb : Nat) (ks vs ks2 vs2 : List Int) : Prop := ∃ DK DV EK EV, TbII W w0.heap.size pa DK DV ks vs ∧ TbSS W w0.heap.size pb EK EV (ks2.map txt) (vs2.map txt) ∧ Below w0.heap.size w0 W
theorem PP.below {w0 W W' : World} {pa pb : Nat} {ks vs ks2 vs2 : List Int} (h : PP w0 W pa pb ks vs ks2 vs2) (hb : Below W.heap.size W W') : PP w0 W' pa pb ks vs ks2 vs2 := by
  obtain ⟨a, b, c, d, h1, h2, h3⟩ := h
  exact ⟨a, b, c, d, h1.below hb, h2.below hb, h3.trans (hb.mono h3.size)⟩
theorem PP.drewN {w0 W : World} {pa pb : Nat} {ks vs ks2 vs2 : List Int} (h : PP w0 W pa pb ks vs ks2 vs2) (q : Nat) : PP w0 (W.drewN q) pa pb ks vs ks2 vs2 := by
  obtain ⟨a, b, c, d, h1, h2, h3⟩ := h
  exact ⟨a, b, c, d, h1.drewN q, h2.drewN q, below_drewN h3 q⟩
def PEnds (w0 : World) (pa pb : Nat) (b : Bool) (ks vs ks2 vs2 : List Int) (e : Ending) (w' : World) : Prop := e = .returned (.bool b) ∧ PP w0 w' pa pb ks vs ks2 vs2
/-- what Set does to both -/
theorem set_two (w0 : World) (pa pb : Nat) (ks vs : List Int) (k v : Int) (hr : Rising ltI ks) (hk : ∀ k ∈ ks, R64 k) (hv : ∀ k ∈ vs, R64 k) (rk : R64 k) (rv : R64 v) (hn : ks.length ≤ 1000) (he : ks.length = vs.length) : ∃ (b : Bool) (ks' vs' : List Int), Rising ltI ks' ∧ (∀ k ∈ ks', R64 k) ∧ (∀ k ∈ vs', R64 k) ∧ ks'.length ≤ ks.length + 1 ∧ ks'.length = vs'.length ∧
    (∀ W ks2 vs2, PP w0 W pa pb ks vs ks2 vs2 → Calls Try.prog 67 #[.pointer (some ⟨pa, 0, none⟩), .int .i64 k, .int .i64 v] W (PEnds w0 pa pb b ks' vs' ks2 vs2)) ∧
    (∀ W ks2 vs2, PP w0 W pa pb ks2 vs2 ks vs → Calls Try.prog 73 #[.pointer (some ⟨pb, 0, none⟩), .string (txt k), .string (txt v)] W (PEnds w0 pa pb b ks2 vs2 ks' vs')) := by
  obtain ⟨i, hat⟩ := At.ex ordI ks hr k
  have hrS := rising_txt hr hk
  have hatS := at_txt hat hk rk
  by_cases hf : ks[i]? = some k
  · refine ⟨false, ks, vs.set i v, hr, hk, fun x hx => (List.mem_or_eq_of_mem_set hx).elim (hv x) (fun e => e ▸ rv), by omega, by rw [List.length_set]; exact he, fun W ks2 vs2 h => ?_, fun W ks2 vs2 h => ?_⟩
    · obtain ⟨a, b, c, d, h1, h2, h3⟩ := h
      refine (setII_old _ pa a b ks vs k v i W h1 hr hat (by omega) hf).mono ?_
      unfold TEndsII
      rintro e w' ⟨rfl, a', b', t, kp, _, _, bb⟩
      exact ⟨rfl, a', b', c, d, t, kp_SS h1 kp h2, h3.trans bb⟩
    · obtain ⟨a, b, c, d, h1, h2, h3⟩ := h
      refine (setSS_old _ pb c d _ _ (txt k) (txt v) i W h2 hrS hatS (by simp; omega) ((found_txt hk rk).2 hf)).mono ?_
      unfold TEndsSS
      rintro e w' ⟨rfl, a', b', t, kp, _, _, bb⟩
      exact ⟨rfl, a, b, a', b', kp_II h2 kp h1, by rw [List.map_set]; exact t, h3.trans bb⟩
  · refine ⟨true, ks.take i ++ k :: ks.drop i, vs.take i ++ v :: vs.drop i, hr.ins ordI hat hf, fun x hx => ?_, fun x hx => ?_, by have := hat.1; simp; omega, by have := hat.1; simp; omega, fun W ks2 vs2 h => ?_, fun W ks2 vs2 h => ?_⟩
    · rcases List.mem_append.1 hx with h | h
      · exact hk x (List.mem_of_mem_take h)
      · rcases List.mem_cons.1 h with rfl | h
        · exact rk
        · exact hk x (List.mem_of_mem_drop h)
    · rcases List.mem_append.1 hx with h | h
      · exact hv x (List.mem_of_mem_take h)
      · rcases List.mem_cons.1 h with rfl | h
        · exact rv
        · exact hv x (List.mem_of_mem_drop h)
    · obtain ⟨a, b, c, d, h1, h2, h3⟩ := h
      refine (setII_new _ pa a b ks vs k v i W h1 hr hat (by omega) hf h3.size).mono ?_
      unfold TEndsII
      rintro e w' ⟨rfl, a', b', t, kp, _, _, bb⟩
      exact ⟨rfl, a', b', c, d, t, kp_SS h1 kp h2, h3.trans bb⟩
    · obtain ⟨a, b, c, d, h1, h2, h3⟩ := h
      refine (setSS_new _ pb c d _ _ (txt k) (txt v) i W h2 hrS hatS (by simp; omega) (fun e => hf ((found_txt hk rk).1 e)) h3.size).mono ?_
      unfold TEndsSS
      rintro e w' ⟨rfl, a', b', t, kp, _, _, bb⟩
      exact ⟨rfl, a, b, a', b', kp_II h2 kp h1, by simpa [List.map_take, List.map_drop] using t, h3.trans bb⟩
/-- what Del does to both -/
theorem del_two (w0 : World) (pa pb : Nat) (ks vs : List Int) (k : Int) (hr : Rising ltI ks) (hk : ∀ k ∈ ks, R64 k) (hv : ∀ k ∈ vs, R64 k) (rk : R64 k) (hn : ks.length ≤ 1000) (he : ks.length = vs.length) : ∃ (b : Bool) (ks' vs' : List Int), Rising ltI ks' ∧ (∀ k ∈ ks', R64 k) ∧ (∀ k ∈ vs', R64 k) ∧ ks'.length ≤ ks.length + 1 ∧ ks'.length = vs'.length ∧
    (∀ W ks2 vs2, PP w0 W pa pb ks vs ks2 vs2 → Calls Try.prog 66 #[.pointer (some ⟨pa, 0, none⟩), .int .i64 k] W (PEnds w0 pa pb b ks' vs' ks2 vs2)) ∧
    (∀ W ks2 vs2, PP w0 W pa pb ks2 vs2 ks vs → Calls Try.prog 74 #[.pointer (some ⟨pb, 0, none⟩), .string (txt k)] W (PEnds w0 pa pb b ks2 vs2 ks' vs')) := by
  obtain ⟨i, hat⟩ := At.ex ordI ks hr k
  have hrS := rising_txt hr hk
  have hatS := at_txt hat hk rk
  by_cases hf : ks[i]? = some k
  · have hil := (List.getElem?_eq_some_iff.1 hf).1
    refine ⟨true, ks.take i ++ ks.drop (i + 1), vs.take i ++ vs.drop (i + 1), hr.del i, fun x hx => ?_, fun x hx => ?_, by simp; omega, by simp; omega, fun W ks2 vs2 h => ?_, fun W ks2 vs2 h => ?_⟩
    · rcases List.mem_append.1 hx with h | h
      · exact hk x (List.mem_of_mem_take h)
      · exact hk x (List.mem_of_mem_drop h)
    · rcases List.mem_append.1 hx with h | h
      · exact hv x (List.mem_of_mem_take h)
      · exact hv x (List.mem_of_mem_drop h)
    · obtain ⟨a, b, c, d, h1, h2, h3⟩ := h
      refine (delII_yes _ pa a b ks vs k i W h1 hr hat (by omega) hf h3.size).mono ?_
      unfold TEndsII
      rintro e w' ⟨rfl, a', b', t, kp, _, _, bb⟩
      exact ⟨rfl, a', b', c, d, t, kp_SS h1 kp h2, h3.trans bb⟩
    · obtain ⟨a, b, c, d, h1, h2, h3⟩ := h
      refine (delSS_yes _ pb c d _ _ (txt k) i W h2 hrS hatS (by simp; omega) ((found_txt hk rk).2 hf) h3.size).mono ?_
      unfold TEndsSS
      rintro e w' ⟨rfl, a', b', t, kp, _, _, bb⟩
      exact ⟨rfl, a, b, a', b', kp_II h2 kp h1, by simpa [List.map_take, List.map_drop] using t, h3.trans bb⟩
  · refine ⟨false, ks, vs, hr, hk, hv, by omega, he, fun W ks2 vs2 h => ?_, fun W ks2 vs2 h => ?_⟩
    · obtain ⟨a, b, c, d, h1, h2, h3⟩ := h
      refine (delII_no _ pa a b ks vs k i W h1 hr hat (by omega) hf).mono ?_
      rintro e w' ⟨rfl, q, rfl⟩
      exact ⟨rfl, PP.drewN ⟨a, b, c, d, h1, h2, h3⟩ q⟩
    · obtain ⟨a, b, c, d, h1, h2, h3⟩ := h
      refine (delSS_no _ pb c d _ _ (txt k) i W h2 hrS hatS (by simp; omega) (fun e => hf ((found_txt hk rk).1 e))).mono ?_
      rintro e w' ⟨rfl, q, rfl⟩
      exact ⟨rfl, PP.drewN ⟨a, b, c, d, h1, h2, h3⟩ q⟩
theorem PP.bel {w0 W : World} {pa pb : Nat} {ks vs ks2 vs2 : List Int} (h : PP w0 W pa pb ks vs ks2 vs2) : Below w0.heap.size w0 W := by
  obtain ⟨_, _, _, _, _, _, h3⟩ := h; exact h3
/-- what a pair of tables holds -/
structure Good (ks vs : List Int) : Prop where
  r : Rising ltI ks
  k : ∀ k ∈ ks, R64 k
  v : ∀ k ∈ vs, R64 k
  e : ks.length = vs.length
theorem get_found {w0 : World} {pa pb i : Nat} {ks vs : List Int} {k : Int} (hg : Good ks vs) (hat : At ltI ks k i) (rk : R64 k) (hn : ks.length ≤ 1000) (hf : ks[i]? = some k) : ∃ v0, R64 v0 ∧
    (∀ W, PP w0 W pa pb ks vs ks vs → Calls Try.prog 69 #[.pointer (some ⟨pa, 0, none⟩), .int .i64 k] W fun e w' => e = .returned (.tuple #[.int .i64 v0, .bool true]) ∧ ∃ q, w' = W.drewN q) ∧
    (∀ W, PP w0 W pa pb ks vs ks vs → Calls Try.prog 75 #[.pointer (some ⟨pb, 0, none⟩), .string (txt k)] W fun e w' => e = .returned (.tuple #[.string (txt v0), .bool true]) ∧ ∃ q, w' = W.drewN q) := by
  have hil : i < vs.length := by have := (List.getElem?_eq_some_iff.1 hf).1; have := hg.e; omega
  refine ⟨vs[i], hg.v _ (List.getElem_mem hil), fun W h => ?_, fun W h => ?_⟩
  · obtain ⟨a, b, c, d, h1, h2, h3⟩ := h
    have h := getII_calls _ pa a b ks vs k i W h1 hg.r hat (by omega)
    rw [if_pos hf, decide_eq_true hf] at h
    have e : vs.getD i 0 = vs[i] := by simp [List.getD, hil]
    rw [e] at h
    exact h
  · obtain ⟨a, b, c, d, h1, h2, h3⟩ := h
    have hf' := (found_txt hg.k rk).2 hf
    have h := getSS_calls _ pb c d _ _ (txt k) i W h2 (rising_txt hg.r hg.k) (at_txt hat hg.k rk) (by simp; omega)
    rw [if_pos hf', decide_eq_true hf'] at h
    have e : (vs.map txt).getD i ⟨#[]⟩ = txt vs[i] := by simp [List.getD, hil]
    rw [e] at h
    exact h
theorem get_none {w0 : World} {pa pb i : Nat} {ks vs : List Int} {k : Int} (hg : Good ks vs) (hat : At ltI ks k i) (rk : R64 k) (hn : ks.length ≤ 1000) (hf : ks[i]? ≠ some k) :
    (∀ W, PP w0 W pa pb ks vs ks vs → Calls Try.prog 69 #[.pointer (some ⟨pa, 0, none⟩), .int .i64 k] W fun e w' => e = .returned (.tuple #[.int .i64 0, .bool false]) ∧ ∃ q, w' = W.drewN q) ∧
    (∀ W, PP w0 W pa pb ks vs ks vs → Calls Try.prog 75 #[.pointer (some ⟨pb, 0, none⟩), .string (txt k)] W fun e w' => e = .returned (.tuple #[.string ⟨#[]⟩, .bool false]) ∧ ∃ q, w' = W.drewN q) := by
  refine ⟨fun W h => ?_, fun W h => ?_⟩
  · obtain ⟨a, b, c, d, h1, h2, h3⟩ := h
    have h := getII_calls _ pa a b ks vs k i W h1 hg.r hat (by omega)
    rw [if_neg hf, decide_eq_false hf] at h
    exact h
  · obtain ⟨a, b, c, d, h1, h2, h3⟩ := h
    have hf' : ¬ (ks.map txt)[i]? = some (txt k) := fun e => hf ((found_txt hg.k rk).1 e)
    have h := getSS_calls _ pb c d _ _ (txt k) i W h2 (rising_txt hg.r hg.k) (at_txt hat hg.k rk) (by simp; omega)
    rw [if_neg hf', decide_eq_false hf'] at h
    exact h
theorem least_two {w0 : World} {pa pb i : Nat} {ks vs : List Int} {k : Int} (hg : Good ks vs) (hat : At ltI ks k i) (rk : R64 k) (hn : ks.length ≤ 1000) :
    (∀ W, PP w0 W pa pb ks vs ks vs → Calls Try.prog 70 #[.pointer (some ⟨pa, 0, none⟩), .int .i64 k] W fun e w' => e = .returned (.int .i64 (i : Int)) ∧ ∃ q, w' = W.drewN q) ∧
    (∀ W, PP w0 W pa pb ks vs ks vs → Calls Try.prog 76 #[.pointer (some ⟨pb, 0, none⟩), .string (txt k)] W fun e w' => e = .returned (.int .i64 (i : Int)) ∧ ∃ q, w' = W.drewN q) := by
  refine ⟨fun W h => ?_, fun W h => ?_⟩
  · obtain ⟨a, b, c, d, h1, h2, h3⟩ := h
    exact leastII_calls _ pa a b ks vs k i W h1 hg.r hat (by omega)
  · obtain ⟨a, b, c, d, h1, h2, h3⟩ := h
    exact leastSS_calls _ pb c d _ _ (txt k) i W h2 (rising_txt hg.r hg.k) (at_txt hat hg.k rk) (by simp; omega)
end Go.Proofs.Ytepmnhlfjidhjaa
