/-
  The contracts of a table's methods: keys string, values []byte.
-/
import Derived.Test.YtbmgeomndfodpaaTabW
import Derived.Test.YtbmgeomndfodpaaTabL
import Derived.BigQuiet
import Derived.Deep.RegionHeld3
namespace Go.Proofs.Ytbmgeomndfodpaa
open Go.RowKit Go.Mem Go.Proofs

def TbSL (w : World) (B p : Nat) (DK DV : Option Addr) (ks : List ByteArray) (vs : List Sb) : Prop := ∃ cK cV, T0 w B 134 9 27 p DK ks.length cK (ks.map Value.string) DV vs.length cV (vs.map Sb.val) ∧ ks.length = vs.length
theorem TbSL.below {w w' : World} {B p : Nat} {DK DV : Option Addr} {ks : List ByteArray} {vs : List Sb} (h : TbSL w B p DK DV ks vs) (hb : Below w.heap.size w w') : TbSL w' B p DK DV ks vs := by
  obtain ⟨a, b, h1, h2⟩ := h; exact ⟨a, b, h1.below hb, h2⟩
theorem TbSL.drewN {w : World} {B p : Nat} {DK DV : Option Addr} {ks : List ByteArray} {vs : List Sb} (h : TbSL w B p DK DV ks vs) (q : Nat) : TbSL (w.drewN q) B p DK DV ks vs := by
  obtain ⟨a, b, h1, h2⟩ := h; exact ⟨a, b, h1.drewN q, h2⟩
theorem TbSL.mono {w : World} {B B' p : Nat} {DK DV : Option Addr} {ks : List ByteArray} {vs : List Sb} (h : TbSL w B p DK DV ks vs) (hB : B' ≤ B) : TbSL w B' p DK DV ks vs := by
  obtain ⟨a, b, h1, h2⟩ := h; exact ⟨a, b, h1.mono hB, h2⟩
/-- what a call on a table ends in -/
def TEndsSL (w : World) (B p : Nat) (DK DV : Option Addr) (v : Value) (ks : List ByteArray) (vs : List Sb) (e : Ending) (w' : World) : Prop := e = .returned v ∧ ∃ DK' DV', TbSL w' B p DK' DV' ks vs ∧ Kp w w' p DK DV ∧ Nw w DK DK' ∧ Nw w DV DV' ∧ Below B w w'
theorem oneKSL (ks : List ByteArray) : ∀ u ∈ ks.map Value.string, u.oneCell' = true := by intro u hu; obtain ⟨_, _, rfl⟩ := List.mem_map.1 hu; rfl
theorem oneVSL (vs : List Sb) : ∀ u ∈ vs.map Sb.val, u.oneCell' = true := by intro u hu; obtain ⟨_, _, rfl⟩ := List.mem_map.1 hu; rfl

set_option maxRecDepth 100000 in
theorem newSL_calls (w : World) : Calls Try.prog 67 #[] w fun e w' => e = .returned (.pointer (some ⟨w.heap.size, 0, none⟩)) ∧ TbSL w' w.heap.size w.heap.size none none [] [] ∧ Below w.heap.size w w' := by
  have HFin : Hid (TbSL (w.alloc (.cells #[.slice none 0 0, .slice none 0 0] 134)) w.heap.size w.heap.size none none [] []) := (show TbSL _ _ _ _ _ _ _ from ⟨0, 0, ⟨Blk.new w 134 #[.slice none 0 0, .slice none 0 0], OwnB.nil _ _ _ _, OwnB.nil _ _ _ _, by decide, by decide, Nat.le_refl _, fun g h => by cases h⟩, rfl⟩)
  go_enter Try.func67, Try.ntmps67
  go_wp2_with fail
  go_ret
  exact ⟨rfl, HFin.out, (Below.refl _ _).alloc (Nat.le_refl _) _⟩

theorem lenSL_calls (B p : Nat) (DK DV : Option Addr) (ks : List ByteArray) (vs : List Sb) (w : World) (h : TbSL w B p DK DV ks vs) :
    Calls Try.prog 83 #[.pointer (some ⟨p, 0, none⟩)] w fun e w' => e = .returned (.int .i64 (ks.length : Int)) ∧ w' = w := by
  obtain ⟨cK, cV, h, heq⟩ := h
  have c0 := h.b.cell 0
  simp only [List.getElem?_cons_zero] at c0
  clear heq h
  generalize ks.length = n at *
  go_enter Try.func83, Try.ntmps83
  go_wp2_with fail
  go_ret
  exact ⟨rfl, rfl⟩

def KeysEndSL (w : World) (ks : List ByteArray) (e : Ending) (w' : World) : Prop := ∃ D' c', e = .returned (.slice D' ks.length c') ∧ OwnB w' w.heap.size 9 1 D' ks.length c' (ks.map Value.string) ∧ Below w.heap.size w w'
theorem keysSL_calls (B p : Nat) (DK DV : Option Addr) (ks : List ByteArray) (vs : List Sb) (w : World) (h : TbSL w B p DK DV ks vs) (hn : ks.length ≤ 1000000) :
    Calls Try.prog 73 #[.pointer (some ⟨p, 0, none⟩)] w (KeysEndSL w ks) := by
  obtain ⟨cK, cV, h, heq⟩ := h
  have c0 := h.b.cell 0
  simp only [List.getElem?_cons_zero] at c0
  have HC := Lib.hid (cloneS_calls DK ks.length cK ks w h.k.sl rfl hn)
  have hv : Hid (∀ e w', KeysEndSL w ks e w' → KeysEndSL w ks e w') := (show ∀ _ _, _ → _ from fun _ _ h => h)
  clear heq h
  unfold KeysEndSL at hv ⊢
  generalize ks.length = n at *
  go_enter Try.func73, Try.ntmps73
  go_wp2_with fail
  refine HC.out.mono ?_
  rintro e w1 ⟨D', c', rfl, o1, b1, _⟩
  have HO := Lib.hid o1
  clear o1 HC
  go_wp2_with fail
  go_ret
  exact ⟨D', c', rfl, HO.out, b1⟩

set_option maxRecDepth 100000 in
theorem getSL_calls (B p : Nat) (DK DV : Option Addr) (ks : List ByteArray) (vs : List Sb) (k : ByteArray) (i : Nat) (w : World) (h : TbSL w B p DK DV ks vs) (hr : Tab.Rising ltS ks) (hat : Tab.At ltS ks k i) (hn : ks.length ≤ 1000000) :
    Calls Try.prog 69 #[.pointer (some ⟨p, 0, none⟩), Value.string k] w fun e w' => e = .returned (.tuple #[if ks[i]? = some k then Sb.val (vs.getD i ⟨none, 0, 0⟩) else .slice none 0 0, .bool (decide (ks[i]? = some k))]) ∧ ∃ q, w' = w.drewN q := by
  obtain ⟨cK, cV, h, heq⟩ := h
  have c0 := h.b.cell 0
  have c1 := h.b.cell 1
  simp only [List.getElem?_cons_zero, List.getElem?_cons_succ] at c0 c1
  have HS := Lib.hid (searchS_calls B DK ks.length cK ks k i w h.k hr hat hn)
  by_cases hf : ks[i]? = some k
  · have hil : i < vs.length := by have := (List.getElem?_eq_some_iff.1 hf).1; omega
    rw [decide_eq_true hf] at HS
    rw [decide_eq_true hf, if_pos hf]
    obtain ⟨g, o, rfl, hc⟩ := h.v.sl.at_ (k := i) (by simpa using hil)
    rw [List.getElem_map] at hc
    have hgd : vs.getD i ⟨none, 0, 0⟩ = vs[i] := by simp [List.getD, hil]
    rw [hgd]
    generalize vs[i] = v at *
    have i0 : (0 : Int) ≤ (i : Int) := by omega
    have i1 : (i : Int) < (vs.length : Int) := by omega
    clear hgd heq hf h hr hat hil
    generalize vs.length = m at *
    generalize ks.length = n at *
    go_enter Try.func69, Try.ntmps69
    go_wp2_with fail
    refine HS.out.mono ?_
    rintro e w1 ⟨rfl, q, rfl⟩
    go_wp2_with fail
    go_ret2
    exact ⟨rfl, _, rfl⟩
  · rw [decide_eq_false hf] at HS
    rw [decide_eq_false hf, if_neg hf]
    clear heq h hr hat hf
    generalize vs.length = m at *
    generalize ks.length = n at *
    go_enter Try.func69, Try.ntmps69
    go_wp2_with fail
    refine HS.out.mono ?_
    rintro e w1 ⟨rfl, q, rfl⟩
    go_wp2_with fail
    go_ret2
    exact ⟨rfl, _, rfl⟩

set_option maxRecDepth 100000 in
theorem atSL_in (B p : Nat) (DK DV : Option Addr) (ks : List ByteArray) (vs : List Sb) (j : Nat) (k : ByteArray) (v : Sb) (w : World) (h : TbSL w B p DK DV ks vs) (hk : ks[j]? = some k) (hv : vs[j]? = some v) :
    Calls Try.prog 84 #[.pointer (some ⟨p, 0, none⟩), .int .i64 (j : Int)] w fun e w' => e = .returned (.tuple #[Value.string k, Sb.val v, .bool true]) ∧ ∃ q, w' = w.drewN q := by
  obtain ⟨cK, cV, h, heq⟩ := h
  have c0 := h.b.cell 0
  have c1 := h.b.cell 1
  simp only [List.getElem?_cons_zero, List.getElem?_cons_succ] at c0 c1
  have hj := (List.getElem?_eq_some_iff.1 hk).1
  have hj2 := (List.getElem?_eq_some_iff.1 hv).1
  obtain ⟨g, o, rfl, hc⟩ := h.k.sl j (Value.string k) (by rw [List.getElem?_map, hk]; rfl)
  obtain ⟨g2, o2, rfl, hc2⟩ := h.v.sl j (Sb.val v) (by rw [List.getElem?_map, hv]; rfl)
  have i0 : (0 : Int) ≤ (j : Int) := by omega
  have i1 : (j : Int) < (ks.length : Int) := by omega
  have i2 : (j : Int) < (vs.length : Int) := by omega
  have d1 : decide ((j : Int) < 0) = false := decide_eq_false (by omega)
  have d2 : decide ((ks.length : Int) ≤ (j : Int)) = false := decide_eq_false (by omega)
  clear heq h hk hv hj hj2
  generalize vs.length = m at *
  generalize ks.length = n at *
  go_enter Try.func84, Try.ntmps84
  go_wp2_with fail
  go_big_quiet (fail)
  go_wp2_with fail
  go_ret3
  exact ⟨rfl, _, rfl⟩
set_option maxRecDepth 100000 in
theorem atSL_out (B p : Nat) (DK DV : Option Addr) (ks : List ByteArray) (vs : List Sb) (j : Int) (w : World) (h : TbSL w B p DK DV ks vs) (hj : j < 0 ∨ (ks.length : Int) ≤ j) :
    Calls Try.prog 84 #[.pointer (some ⟨p, 0, none⟩), .int .i64 j] w fun e w' => e = .returned (.tuple #[.string ⟨#[]⟩, .slice none 0 0, .bool false]) ∧ ∃ q, w' = w.drewN q := by
  obtain ⟨cK, cV, h, heq⟩ := h
  have c0 := h.b.cell 0
  simp only [List.getElem?_cons_zero] at c0
  clear heq h
  generalize vs.length = m at *
  generalize ks.length = n at *
  by_cases h0 : j < 0
  · have d1 : decide (j < 0) = true := decide_eq_true h0
    clear hj
    go_enter Try.func84, Try.ntmps84
    go_wp2_with fail
    go_ret3
    exact ⟨rfl, 0, rfl⟩
  · have d1 : decide (j < 0) = false := decide_eq_false h0
    have d2 : decide ((n : Int) ≤ j) = true := decide_eq_true (by omega)
    clear hj
    go_enter Try.func84, Try.ntmps84
    go_wp2_with fail
    go_ret3
    exact ⟨rfl, 0, rfl⟩

set_option maxRecDepth 100000 in
set_option maxHeartbeats 1600000 in
theorem setSL_old (B p : Nat) (DK DV : Option Addr) (ks : List ByteArray) (vs : List Sb) (k : ByteArray) (v1 : Option Addr) (v2 v3 : Nat) (i : Nat) (w : World) (h : TbSL w B p DK DV ks vs) (hr : Tab.Rising ltS ks) (hat : Tab.At ltS ks k i) (hn : ks.length ≤ 1000000) (hf : ks[i]? = some k) :
    Calls Try.prog 97 #[.pointer (some ⟨p, 0, none⟩), Value.string k, .slice v1 v2 v3] w (TEndsSL w B p DK DV (.bool false) ks (vs.set i (⟨v1, v2, v3⟩ : Sb))) := by
  obtain ⟨cK, cV, h, heq⟩ := h
  have c0 := h.b.cell 0
  have c1 := h.b.cell 1
  simp only [List.getElem?_cons_zero, List.getElem?_cons_succ] at c0 c1
  have HS := Lib.hid (searchS_calls B DK ks.length cK ks k i w h.k hr hat hn)
  rw [decide_eq_true hf] at HS
  have hil : i < vs.length := by have := (List.getElem?_eq_some_iff.1 hf).1; omega
  rcases h.v.2.2 with ⟨_, h0, _⟩ | ⟨g, sp, hd, hgB, hb, hcap⟩
  · omega
  · subst hd
    have gj : w.cell? ⟨g, i, none⟩ = some (Sb.val vs[i]) := by rw [hb.cell, List.getElem?_append_left (by simpa using hil), List.getElem?_map, List.getElem?_eq_getElem hil]; rfl
    have fj := hb.frozen i
    generalize vs[i] = old at gj
    have HT : Hid (∀ q, TEndsSL w B p DK (some ⟨g, 0, none⟩) (.bool false) ks (vs.set i (⟨v1, v2, v3⟩ : Sb)) (.returned (.bool false)) ((w.drewN q).setCell ⟨g, i, none⟩ (.slice v1 v2 v3))) := (show ∀ q, _ from fun q => by
      obtain ⟨h1, h2⟩ := (h.drewN q).putV (by decide) rfl hil (.slice v1 v2 v3)
      rw [show Value.slice v1 v2 v3 = Sb.val ⟨v1, v2, v3⟩ from rfl, ← List.map_set] at h1
      refine ⟨rfl, DK, some ⟨g, 0, none⟩, ⟨cK, cV, by rw [List.length_set]; exact h1, by rw [List.length_set]; exact heq⟩, h2, Nw.refl _ _, Nw.refl _ _, (below_drewN (Below.refl B w) q).setCell (p := ⟨g, i, none⟩) hgB _⟩)
    have i0 : (0 : Int) ≤ (i : Int) := by omega
    have i1 : (i : Int) < (vs.length : Int) := by omega
    clear heq hf h hr hat hil hb hcap
    generalize hks : ks.length = n at *
    clear hks
    generalize hvl : vs.length = m at *
    clear hvl
    go_enter Try.func97, Try.ntmps97
    go_wp2_with fail
    refine HS.out.mono ?_
    rintro e w1 ⟨rfl, q, rfl⟩
    go_wp2_with fail
    go_ret
    exact HT.out q

theorem ins_mapSL {α : Type} (F : α → Value) (l : List α) (i : Nat) (x : α) : (l.map F).take i ++ ([F x] ++ (l.map F).drop i) = (l.take i ++ x :: l.drop i).map F := by
  rw [← List.map_take, ← List.map_drop]; simp
theorem ins_lengthSL {α : Type} (l : List α) (i : Nat) (x : α) (h : i ≤ l.length) : (l.take i ++ x :: l.drop i).length = l.length + 1 := by simp; omega

set_option maxRecDepth 100000 in
set_option maxHeartbeats 1600000 in
theorem setSL_new (B p : Nat) (DK DV : Option Addr) (ks : List ByteArray) (vs : List Sb) (k : ByteArray) (v1 : Option Addr) (v2 v3 : Nat) (i : Nat) (w : World) (h : TbSL w B p DK DV ks vs) (hr : Tab.Rising ltS ks) (hat : Tab.At ltS ks k i) (hn : ks.length ≤ 100000) (hf : ks[i]? ≠ some k) (hBw : B ≤ w.heap.size) :
    Calls Try.prog 97 #[.pointer (some ⟨p, 0, none⟩), Value.string k, .slice v1 v2 v3] w (TEndsSL w B p DK DV (.bool true) (ks.take i ++ k :: ks.drop i) (vs.take i ++ (⟨v1, v2, v3⟩ : Sb) :: vs.drop i)) := by
  obtain ⟨cK, cV, h, heq⟩ := h
  have c0 := h.b.cell 0
  have c1 := h.b.cell 1
  simp only [List.getElem?_cons_zero, List.getElem?_cons_succ] at c0 c1
  have HS := Lib.hid (searchS_calls B DK ks.length cK ks k i w h.k hr hat (by omega))
  rw [decide_eq_false hf] at HS
  have hil := hat.1
  have HH := Lib.hid h
  have hnV : vs.length ≤ 100000 := by omega
  have hiV : i ≤ vs.length := by omega
  have HLK := Lib.hid (ins_lengthSL ks i k hil)
  have HLV := Lib.hid (ins_lengthSL vs i (⟨v1, v2, v3⟩ : Sb) hiV)
  have HMK := Lib.hid (ins_mapSL Value.string ks i k)
  have HMV := Lib.hid (show (vs.map Sb.val).take i ++ ([.slice v1 v2 v3] ++ (vs.map Sb.val).drop i) = (vs.take i ++ (⟨v1, v2, v3⟩ : Sb) :: vs.drop i).map Sb.val from (ins_mapSL Sb.val vs i ⟨v1, v2, v3⟩))
  have HEQ := Lib.hid heq
  clear hf hr hat h heq
  go_enter Try.func97, Try.ntmps97
  go_wp2_with fail
  refine HS.out.mono ?_
  rintro e w1 ⟨rfl, q, hq⟩
  have h1 : T0 w1 B 134 9 27 p DK ks.length cK (ks.map Value.string) DV vs.length cV (vs.map Sb.val) := by rw [hq]; exact HH.out.drewN q
  have b1 : Below B w w1 := by rw [hq]; exact below_drewN (Below.refl _ _) q
  have z1 : w1.heap.size = w.heap.size := by rw [hq]; rfl
  have k1 : Kp w w1 p DK DV := by rw [hq]; exact Kp.refl _ _ _ _
  have hA := h1.below ((Below.refl _ _).alloc (Nat.le_refl _) (.cells #[Value.string k] 9))
  have d0 := h1.b.cell 0
  have d1 := h1.b.cell 1
  simp only [List.getElem?_cons_zero, List.getElem?_cons_succ] at d0 d1
  have HI := Lib.hid (insertS_calls B DK ks.length cK i (ks.map Value.string) (Value.string k) w1.heap.size w1 (w1.alloc (.cells #[Value.string k] 9)) hA.k hil (by omega) hA.mxk (Blk.new w1 9 #[Value.string k]) (fun e => by have := (own_lt h1.k e).1; omega) (oneKSL ks) rfl ((Below.refl B w1).alloc (by omega) _) (by simp; omega))
  rw [HMK.out] at HI
  unfold InsEndsS at HI
  rw [List.length_map, HLK.out] at HI
  have HA := Lib.hid hA
  have B1 : B ≤ w1.heap.size := by omega
  have HK1 := Lib.hid k1
  have HZ1 := Lib.hid z1
  clear hq h1 hA HS c0 c1 k1 z1
  go_wp2_with fail
  refine HI.out.mono ?_
  rintro e w2 ⟨D2, c2, rfl, o2, kp2, b2, s2, m2⟩
  obtain ⟨t3, kp3, nw3⟩ := HA.out.setK (by decide) (by decide) kp2 o2 m2
  have hb2 := kp2.blk HA.out.b (own_ne_blk HA.out.k HA.out.b (by decide))
  have e0 := hb2.cell 0
  have e1 := hb2.cell 1
  have f0 := hb2.frozen 0
  simp only [List.getElem?_cons_zero, List.getElem?_cons_succ] at e0 e1
  have hs3 : (w2.setCell ⟨p, 0, none⟩ (.slice D2 (ks.length + 1) c2)).heap.size = w2.heap.size := by simp [World.setCell]
  have b3 : Below B w1 (w2.setCell ⟨p, 0, none⟩ (.slice D2 (ks.length + 1) c2)) := b2.setCell (p := ⟨p, 0, none⟩) HA.out.pB _
  have hB2 : B ≤ w2.heap.size := by simp at s2; omega
  have s2' : w1.heap.size ≤ w2.heap.size := by simp at s2; omega
  have HT3 := Lib.hid t3
  have kpA : Kp w1 (w2.setCell ⟨p, 0, none⟩ (.slice D2 (ks.length + 1) c2)) p DK DV := (Kp.of_below ((Below.refl _ _).alloc (Nat.le_refl _) _)).trans kp3 (by simp) (Nw.refl _ _) (Nw.refl _ _)
  have nwA : Nw w1 DK D2 := by
    rcases nw3 with h1 | ⟨g, h1, h2⟩
    · exact .inl h1
    · exact .inr ⟨g, h1, by simp at h2; omega⟩
  have HKA := Lib.hid kpA
  have HNA := Lib.hid nwA
  have hB' := t3.below ((Below.refl _ _).alloc (Nat.le_refl _) (.cells #[.slice v1 v2 v3] 27))
  have hbv : Blk ((w2.setCell ⟨p, 0, none⟩ (.slice D2 (ks.length + 1) c2)).alloc (.cells #[.slice v1 v2 v3] 27)) w2.heap.size 27 [.slice v1 v2 v3] := by have := Blk.new (w2.setCell ⟨p, 0, none⟩ (.slice D2 (ks.length + 1) c2)) 27 #[.slice v1 v2 v3]; rw [hs3] at this; exact this
  have HI2 := Lib.hid (insertL1_calls B DV vs.length cV i (vs.map Sb.val) (.slice v1 v2 v3) w2.heap.size w1 ((w2.setCell ⟨p, 0, none⟩ (.slice D2 (ks.length + 1) c2)).alloc (.cells #[.slice v1 v2 v3] 27)) hB'.v hiV (by omega) hB'.mxv hbv (fun e => by have := (own_lt t3.v e).1; rw [hs3] at this; omega) (oneVSL vs) rfl (b3.alloc (by rw [hs3]; omega) _) (by simp; omega))
  rw [HMV.out] at HI2
  unfold InsEndsL1 at HI2
  rw [List.length_map, HLV.out] at HI2
  have HB' := Lib.hid hB'
  have HS3 := Lib.hid hs3
  clear HI o2 kp2 b2 s2 m2 t3 kp3 nw3 hb2 b3 kpA nwA hB' hbv d0 d1 hs3
  go_wp2_with fail
  refine HI2.out.mono ?_
  rintro e w4 ⟨D4, c4, rfl, o4, kp4, b4, s4, m4⟩
  obtain ⟨t5, kp5, nw5⟩ := HB'.out.setV (by decide) (by decide) kp4 o4 m4
  have hb4 := kp4.blk HB'.out.b (own_ne_blk HB'.out.v HB'.out.b (by decide))
  have g1 := hb4.cell 1
  have f1 := hb4.frozen 1
  simp only [List.getElem?_cons_zero, List.getElem?_cons_succ] at g1
  have hs3 := HS3.out
  have z1 := HZ1.out
  have HFin : Hid (TEndsSL w B p DK DV (.bool true) (ks.take i ++ k :: ks.drop i) (vs.take i ++ (⟨v1, v2, v3⟩ : Sb) :: vs.drop i) (.returned (.bool true)) (w4.setCell ⟨p, 1, none⟩ (.slice D4 (vs.length + 1) c4))) := (show TEndsSL _ _ _ _ _ _ _ _ _ _ from by
    refine ⟨rfl, D2, D4, ⟨c2, c4, by rw [HLK.out, HLV.out]; exact t5, by rw [HLK.out, HLV.out, HEQ.out]⟩, ?_, ?_, ?_, b1.trans (b4.setCell (p := ⟨p, 1, none⟩) HB'.out.pB _)⟩
    · refine HK1.out.trans (w' := w1) (HKA.out.trans (w' := w2.setCell ⟨p, 0, none⟩ (.slice D2 (ks.length + 1) c2)) ((Kp.of_below ((Below.refl _ _).alloc (Nat.le_refl _) _)).trans kp5 (by simp) (Nw.refl _ _) (Nw.refl _ _)) (by rw [hs3]; omega) HNA.out (Nw.refl _ _)) (by omega) (Nw.refl _ _) (Nw.refl _ _)
    · rcases HNA.out with h1 | ⟨g, h1, h2⟩
      · exact .inl h1
      · exact .inr ⟨g, h1, by omega⟩
    · rcases nw5 with h1 | ⟨g, h1, h2⟩
      · exact .inl h1
      · exact .inr ⟨g, h1, by simp at h2; omega⟩)
  clear HI2 o4 kp4 b4 s4 m4 t5 kp5 nw5 hb4 hs3 z1
  go_wp2_with fail
  go_ret
  exact HFin.out

set_option maxRecDepth 100000 in
set_option maxHeartbeats 1600000 in
theorem delSL_no (B p : Nat) (DK DV : Option Addr) (ks : List ByteArray) (vs : List Sb) (k : ByteArray) (i : Nat) (w : World) (h : TbSL w B p DK DV ks vs) (hr : Tab.Rising ltS ks) (hat : Tab.At ltS ks k i) (hn : ks.length ≤ 1000000) (hf : ks[i]? ≠ some k) :
    Calls Try.prog 98 #[.pointer (some ⟨p, 0, none⟩), Value.string k] w fun e w' => e = .returned (.bool false) ∧ ∃ q, w' = w.drewN q := by
  obtain ⟨cK, cV, h, heq⟩ := h
  have c0 := h.b.cell 0
  simp only [List.getElem?_cons_zero] at c0
  have HS := Lib.hid (searchS_calls B DK ks.length cK ks k i w h.k hr hat hn)
  rw [decide_eq_false hf] at HS
  clear heq h hr hat hf
  generalize ks.length = n at *
  go_enter Try.func98, Try.ntmps98
  go_wp2_with fail
  refine HS.out.mono ?_
  rintro e w1 ⟨rfl, q, rfl⟩
  go_wp2_with fail
  go_ret
  exact ⟨rfl, _, rfl⟩
theorem del_lengthSL {α : Type} (l : List α) (i : Nat) (h : i < l.length) : (l.take i ++ l.drop (i + 1)).length = l.length - 1 := by simp; omega
set_option maxRecDepth 100000 in
set_option maxHeartbeats 1600000 in
theorem delSL_yes (B p : Nat) (DK DV : Option Addr) (ks : List ByteArray) (vs : List Sb) (k : ByteArray) (i : Nat) (w : World) (h : TbSL w B p DK DV ks vs) (hr : Tab.Rising ltS ks) (hat : Tab.At ltS ks k i) (hn : ks.length ≤ 1000000) (hf : ks[i]? = some k) (hBw : B ≤ w.heap.size) :
    Calls Try.prog 98 #[.pointer (some ⟨p, 0, none⟩), Value.string k] w (TEndsSL w B p DK DV (.bool true) (ks.take i ++ ks.drop (i + 1)) (vs.take i ++ vs.drop (i + 1))) := by
  obtain ⟨cK, cV, h, heq⟩ := h
  have c0 := h.b.cell 0
  have c1 := h.b.cell 1
  simp only [List.getElem?_cons_zero, List.getElem?_cons_succ] at c0 c1
  have HS := Lib.hid (searchS_calls B DK ks.length cK ks k i w h.k hr hat hn)
  rw [decide_eq_true hf] at HS
  have hil : i < ks.length := (List.getElem?_eq_some_iff.1 hf).1
  have hiV : i < vs.length := by omega
  have HH := Lib.hid h
  have HLK := Lib.hid (del_lengthSL ks i hil)
  have HLV := Lib.hid (del_lengthSL vs i hiV)
  have HEQ := Lib.hid heq
  clear hf hr hat h heq
  go_enter Try.func98, Try.ntmps98
  go_wp2_with fail
  refine HS.out.mono ?_
  rintro e w1 ⟨rfl, q, hq⟩
  have h1 : T0 w1 B 134 9 27 p DK ks.length cK (ks.map Value.string) DV vs.length cV (vs.map Sb.val) := by rw [hq]; exact HH.out.drewN q
  have b1 : Below B w w1 := by rw [hq]; exact below_drewN (Below.refl _ _) q
  have z1 : w1.heap.size = w.heap.size := by rw [hq]; rfl
  have k1 : Kp w w1 p DK DV := by rw [hq]; exact Kp.refl _ _ _ _
  have d0 := h1.b.cell 0
  have d1 := h1.b.cell 1
  simp only [List.getElem?_cons_zero, List.getElem?_cons_succ] at d0 d1
  have HI := Lib.hid (deleteS_calls B DK ks.length cK ks i w1 w1 h1.k hil h1.mxk (Below.refl _ _) (by omega))
  have HA := Lib.hid h1
  have HK1 := Lib.hid k1
  have HZ1 := Lib.hid z1
  clear hq h1 HS c0 c1 k1 z1
  go_wp2_with fail
  refine HI.out.mono ?_
  rintro e w2 ⟨rfl, o2, kp2, b2, s2⟩
  obtain ⟨t3, kp3, nw3⟩ := HA.out.setK (by decide) (by decide) kp2 o2 HA.out.mxk
  have hb2 := kp2.blk HA.out.b (own_ne_blk HA.out.k HA.out.b (by decide))
  have e0 := hb2.cell 0
  have e1 := hb2.cell 1
  have f0 := hb2.frozen 0
  simp only [List.getElem?_cons_zero, List.getElem?_cons_succ] at e0 e1
  have hs3 : (w2.setCell ⟨p, 0, none⟩ (.slice DK (ks.length - 1) cK)).heap.size = w2.heap.size := by simp [World.setCell]
  have b3 : Below B w1 (w2.setCell ⟨p, 0, none⟩ (.slice DK (ks.length - 1) cK)) := b2.setCell (p := ⟨p, 0, none⟩) HA.out.pB _
  have HT3 := Lib.hid t3
  have HK3 := Lib.hid kp3
  have HI2 := Lib.hid (deleteL1_calls B DV vs.length cV vs i w1 (w2.setCell ⟨p, 0, none⟩ (.slice DK (ks.length - 1) cK)) t3.v hiV (by have := HEQ.out; omega) b3 (by rw [hs3]; have := HZ1.out; omega))
  have HS3 := Lib.hid hs3
  clear HI o2 kp2 b2 t3 kp3 nw3 hb2 b3 d0 d1 hs3
  go_wp2_with fail
  refine HI2.out.mono ?_
  rintro e w4 ⟨rfl, o4, kp4, b4, s4⟩
  obtain ⟨t5, kp5, nw5⟩ := HT3.out.setV (by decide) (by decide) kp4 o4 HT3.out.mxv
  have hb4 := kp4.blk HT3.out.b (own_ne_blk HT3.out.v HT3.out.b (by decide))
  have g1 := hb4.cell 1
  have f1 := hb4.frozen 1
  simp only [List.getElem?_cons_zero, List.getElem?_cons_succ] at g1
  have hs3 := HS3.out
  have z1 := HZ1.out
  have HFin : Hid (TEndsSL w B p DK DV (.bool true) (ks.take i ++ ks.drop (i + 1)) (vs.take i ++ vs.drop (i + 1)) (.returned (.bool true)) (w4.setCell ⟨p, 1, none⟩ (.slice DV (vs.length - 1) cV))) := (show TEndsSL _ _ _ _ _ _ _ _ _ _ from by
    refine ⟨rfl, DK, DV, ⟨cK, cV, by rw [HLK.out, HLV.out]; exact t5, by rw [HLK.out, HLV.out, HEQ.out]⟩, ?_, Nw.refl _ _, Nw.refl _ _, b1.trans (b4.setCell (p := ⟨p, 1, none⟩) HT3.out.pB _)⟩
    exact HK1.out.trans (w' := w1) (HK3.out.trans kp5 (by rw [hs3]; exact s2) (Nw.refl _ _) (Nw.refl _ _)) (by omega) (Nw.refl _ _) (Nw.refl _ _))
  clear HI2 o4 kp4 b4 s4 t5 kp5 nw5 hb4 HK3
  go_wp2_with fail
  go_ret
  exact HFin.out
theorem stepC {a b c : World} (h : Below a.heap.size a b) (k : Below b.heap.size b c) : Below a.heap.size a c := h.trans (k.mono h.size)
def CopyEnds (w : World) (ks : List ByteArray) (vs : List Sb) (e : Ending) (w' : World) : Prop := ∃ p' D V, e = .returned (.pointer (some ⟨p', 0, none⟩)) ∧ TbSL w' w.heap.size p' D V ks vs ∧ Below w.heap.size w w'
theorem copied {w wb : World} {D1 D2 : Option Addr} {c1 c2 : Nat} {ks : List ByteArray} {vs : List Sb} (heq : ks.length = vs.length) (o1 : OwnB wb w.heap.size 9 1 D1 ks.length c1 (ks.map Value.string)) (o2 : OwnB wb w.heap.size 27 1 D2 vs.length c2 (vs.map Sb.val)) (m1 : c1 ≤ 9223372036854775807) (m2 : c2 ≤ 9223372036854775807)
    (hap : ∀ g, D1 = some ⟨g, 0, none⟩ → D2 ≠ some ⟨g, 0, none⟩) (hb : Below w.heap.size w wb) : CopyEnds w ks vs (.returned (.pointer (some ⟨wb.heap.size, 0, none⟩))) (wb.alloc (.cells #[.slice D1 ks.length c1, .slice D2 vs.length c2] 134)) :=
  ⟨wb.heap.size, D1, D2, rfl, ⟨c1, c2, ⟨Blk.new wb 134 #[.slice D1 ks.length c1, .slice D2 vs.length c2], o1.alloc _, o2.alloc _, m1, m2, hb.size, hap⟩, heq⟩, hb.alloc hb.size _⟩

set_option maxRecDepth 100000 in
set_option maxHeartbeats 3200000 in
theorem copySL_calls (B p : Nat) (DK DV : Option Addr) (ks : List ByteArray) (vs : List Sb) (w : World) (h : TbSL w B p DK DV ks vs) (hn : ks.length ≤ 1000000) :
    Calls Try.prog 71 #[.pointer (some ⟨p, 0, none⟩)] w (CopyEnds w ks vs) := by
  obtain ⟨cK, cV, h, heq⟩ := h
  have c0 := h.b.cell 0
  have c1 := h.b.cell 1
  simp only [List.getElem?_cons_zero, List.getElem?_cons_succ] at c0 c1
  have HK : Hid (∀ W : World, Below w.heap.size w W → Calls Try.prog 95 #[.slice DK ks.length cK] W fun e w' => ∃ D' c', e = .returned (.slice D' ks.length c') ∧ OwnB w' W.heap.size 9 1 D' ks.length c' (ks.map Value.string) ∧ Below W.heap.size W w' ∧ c' ≤ 9223372036854775807) := (show ∀ W : World, _ from fun W hb => cloneS_calls DK ks.length cK ks W (h.k.sl.below hb) rfl hn)
  have HV : Hid (∀ W : World, Below w.heap.size w W → Calls Try.prog 96 #[.slice DV vs.length cV] W fun e w' => ∃ D' c', e = .returned (.slice D' vs.length c') ∧ OwnB w' W.heap.size 27 1 D' vs.length c' (vs.map Sb.val) ∧ Below W.heap.size W w' ∧ c' ≤ 9223372036854775807) := (show ∀ W : World, _ from fun W hb => cloneL_calls DV vs.length cV vs W (h.v.sl.below hb) rfl (by omega))
  have HEQ := Lib.hid heq
  have hCE : Hid (∀ e w', CopyEnds w ks vs e w' → CopyEnds w ks vs e w') := (show ∀ _ _, _ → _ from fun _ _ h => h)
  have hB0 := Below.refl w.heap.size w
  clear h heq hCE hn
  go_enter Try.func71, Try.ntmps71
  go_wp2_with fail
  go_region_held3 (fun w' => Below w.heap.size w w' ∧ w'.cell? ⟨p, 0, none⟩ = some (.slice DK ks.length cK) ∧ w'.cell? ⟨p, 1, none⟩ = some (.slice DV vs.length cV)) (first | (exact ⟨hBz, keep_below hBz c0, keep_below hBz c1⟩) | (exact ⟨hBz.drew, keep_below hBz.drew c0, keep_below hBz.drew c1⟩) | (exact ⟨hB0.drew, c0, c1⟩) | (exact ⟨hBz.alloc hBz.size _, keep_below (hBz.alloc hBz.size _) c0, keep_below (hBz.alloc hBz.size _) c1⟩)) (first | (go_at_call 95; (with_reducible refine (HK.out _ (by first | exact hBz | exact hBz.drew | exact hB0.drew | exact hB0)).mono ?_); rintro e wk ⟨D1, k1, rfl, o1, bk, m1⟩; (try have o2' := OwnB.below o2 bk); have hBz := stepC (by first | exact hBz | exact hBz.drew | exact hB0.drew | exact hB0) bk) | (go_at_call 96; (with_reducible refine (HV.out _ (by first | exact hBz | exact hBz.drew | exact hB0.drew | exact hB0)).mono ?_); rintro e wv ⟨D2, k2, rfl, o2, bv, m2⟩; (try have o1' := OwnB.below o1 bv); have hBz := stepC (by first | exact hBz | exact hBz.drew | exact hB0.drew | exact hB0) bv))
  have b0 : w.heap.size ≤ wk.heap.size := bk.size
  have O1 : OwnB wv w.heap.size 9 1 D1 ks.length k1 (ks.map Value.string) := o1'
  have O2 : OwnB wv w.heap.size 27 1 D2 vs.length k2 (vs.map Sb.val) := o2.mono b0
  have HFin := Lib.hid (copied HEQ.out O1 O2 m1 m2 (fun g h1 h2 => by have := (own_lt o1 h1).1; have := (own_lt o2 h2).2; omega) hBz)
  clear b0 O1 O2 o1 o2 bk m1 m2 HEQ HK HV hB0
  go_wp2_with fail
  go_ret
  exact HFin.out
end Go.Proofs.Ytbmgeomndfodpaa
