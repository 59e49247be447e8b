/-
  Rings of numbers, of texts and of pairs, side by side: what each call does.
-/
import Derived.Test.YtepmnhlfjidhjaaRingTake
import Derived.Test.YtepmnhlfjidhjaaRingRuns2
namespace Go.Proofs.Ytepmnhlfjidhjaa
open Go.RowKit Go.Mem

/-- what the three rings hold -/
structure R3 (w0 W : World) (pa ga pb gb pc gc room : Nat) (xa xb xc : List Int) : Prop where
  a : RgI W pa ga room xa
  b : RgS W pb gb room (xb.map le8)
  c : RgP W pc gc room (xc.map pr8)
  bel : Below w0.heap.size w0 W
  pg : w0.heap.size ≤ pa ∧ w0.heap.size ≤ ga ∧ w0.heap.size ≤ pb ∧ w0.heap.size ≤ gb ∧ w0.heap.size ≤ pc ∧ w0.heap.size ≤ gc
section
variable {w0 w w' : World} {pa ga pb gb pc gc room : Nat} {xa xb xc : List Int}
theorem ne_IS {xs : List Int} {ys : List ByteArray} (h : RgI w pa ga room xs) (k : RgS w pb gb room ys) : pa ∉ [pb, gb] ∧ ga ∉ [pb, gb] ∧ pb ∉ [pa, ga] ∧ gb ∉ [pa, ga] := by
  obtain ⟨_, _, _, h1, h2, _⟩ := h.body
  obtain ⟨_, _, _, k1, k2, _⟩ := k.body
  have e1 := h1.ne_ k1 (by decide)
  have e2 := h1.ne_ k2 (by decide)
  have e3 := h2.ne_ k1 (by decide)
  have e4 := h2.ne_ k2 (by decide)
  simp only [List.mem_cons, List.not_mem_nil, or_false]
  omega
theorem ne_IP {xs : List Int} {ys : List (Int × ByteArray)} (h : RgI w pa ga room xs) (k : RgP w pb gb room ys) : pa ∉ [pb, gb] ∧ ga ∉ [pb, gb] ∧ pb ∉ [pa, ga] ∧ gb ∉ [pa, ga] := by
  obtain ⟨_, _, _, h1, h2, _⟩ := h.body
  obtain ⟨_, _, _, k1, k2, _⟩ := k.body
  have e1 := h1.ne_ k1 (by decide)
  have e2 := h1.ne_ k2 (by decide)
  have e3 := h2.ne_ k1 (by decide)
  have e4 := h2.ne_ k2 (by decide)
  simp only [List.mem_cons, List.not_mem_nil, or_false]
  omega
theorem ne_SP {xs : List ByteArray} {ys : List (Int × ByteArray)} (h : RgS w pa ga room xs) (k : RgP w pb gb room ys) : pa ∉ [pb, gb] ∧ ga ∉ [pb, gb] ∧ pb ∉ [pa, ga] ∧ gb ∉ [pa, ga] := by
  obtain ⟨_, _, _, h1, h2, _⟩ := h.body
  obtain ⟨_, _, _, k1, k2, _⟩ := k.body
  have e1 := h1.ne_ k1 (by decide)
  have e2 := h1.ne_ k2 (by decide)
  have e3 := h2.ne_ k1 (by decide)
  have e4 := h2.ne_ k2 (by decide)
  simp only [List.mem_cons, List.not_mem_nil, or_false]
  omega
theorem R3.below (h : R3 w0 w pa ga pb gb pc gc room xa xb xc) (hb : Below w.heap.size w w') : R3 w0 w' pa ga pb gb pc gc room xa xb xc :=
  ⟨h.a.below hb, h.b.below hb, h.c.below hb, h.bel.trans (hb.mono h.bel.size), h.pg⟩
theorem R3.drewN (h : R3 w0 w pa ga pb gb pc gc room xa xb xc) (n : Nat) : R3 w0 (w.drewN n) pa ga pb gb pc gc room xa xb xc :=
  ⟨h.a.drewN n, h.b.drewN n, h.c.drewN n, below_drewN h.bel n, h.pg⟩
theorem R3.putA {xs : List Int} (h : R3 w0 w pa ga pb gb pc gc room xa xb xc) (k : RgI w' pa ga room xs) (f : Fr [pa, ga] w w') : R3 w0 w' pa ga pb gb pc gc room xs xb xc := by
  obtain ⟨_, _, e1, e2⟩ := ne_IS h.a h.b
  obtain ⟨_, _, e3, e4⟩ := ne_IP h.a h.c
  obtain ⟨g1, g2, g3, g4, g5, g6⟩ := h.pg
  exact ⟨k, h.b.fr f e1 e2, h.c.fr f e3 e4, below_ring h.bel f h.bel.size g1 g2, h.pg⟩
theorem R3.putB {xs : List Int} (h : R3 w0 w pa ga pb gb pc gc room xa xb xc) (k : RgS w' pb gb room (xs.map le8)) (f : Fr [pb, gb] w w') : R3 w0 w' pa ga pb gb pc gc room xa xs xc := by
  obtain ⟨e1, e2, _⟩ := ne_IS h.a h.b
  obtain ⟨_, _, e3, e4⟩ := ne_SP h.b h.c
  obtain ⟨g1, g2, g3, g4, g5, g6⟩ := h.pg
  exact ⟨h.a.fr f e1 e2, k, h.c.fr f e3 e4, below_ring h.bel f h.bel.size g3 g4, h.pg⟩
theorem R3.putC {xs : List Int} (h : R3 w0 w pa ga pb gb pc gc room xa xb xc) (k : RgP w' pc gc room (xs.map pr8)) (f : Fr [pc, gc] w w') : R3 w0 w' pa ga pb gb pc gc room xa xb xs := by
  obtain ⟨e1, e2, _⟩ := ne_IP h.a h.c
  obtain ⟨e3, e4, _⟩ := ne_SP h.b h.c
  obtain ⟨g1, g2, g3, g4, g5, g6⟩ := h.pg
  exact ⟨h.a.fr f e1 e2, h.b.fr f e3 e4, k, below_ring h.bel f h.bel.size g5 g6, h.pg⟩
end
def E3 (w0 : World) (pa ga pb gb pc gc room : Nat) (v : Value) (xa xb xc : List Int) (e : Ending) (w' : World) : Prop := e = .returned v ∧ R3 w0 w' pa ga pb gb pc gc room xa xb xc
theorem putS_map (xs : List Int) (room : Nat) (n : Int) : putS (xs.map le8) room (le8 n) = (putI xs room n).map le8 := by
  unfold putS putI; rw [List.length_map]; split <;> simp
theorem putP_map (xs : List Int) (room : Nat) (n : Int) : putP (xs.map pr8) room (pr8 n) = (putI xs room n).map pr8 := by
  unfold putP putI; rw [List.length_map]; split <;> simp
theorem dropS_map (xs : List Int) (n : Int) : dropS (xs.map le8) n = dropI xs n := by unfold dropS dropI; rw [List.length_map]
theorem dropP_map (xs : List Int) (n : Int) : dropP (xs.map pr8) n = dropI xs n := by unfold dropP dropI; rw [List.length_map]
section
variable (w0 : World) (pa ga pb gb pc gc room : Nat) (xa xb xc : List Int) (n : Int) (w : World) (h : R3 w0 w pa ga pb gb pc gc room xa xb xc)
include h
theorem putA3 : Calls Try.prog 38 #[.pointer (some ⟨pa, 0, none⟩), .int .i64 n] w (E3 w0 pa ga pb gb pc gc room (.bool (decide (xa.length < room))) (putI xa room n) xb xc) :=
  (putI_calls pa ga room xa n w h.a).mono fun _ _ ⟨he, hr, hf⟩ => ⟨he, h.putA hr hf⟩
theorem putB3 : Calls Try.prog 39 #[.pointer (some ⟨pb, 0, none⟩), .string (le8 n)] w (E3 w0 pa ga pb gb pc gc room (.bool (decide (xb.length < room))) xa (putI xb room n) xc) :=
  (putS_calls pb gb room (xb.map le8) (le8 n) w h.b).mono fun _ _ ⟨he, hr, hf⟩ => ⟨by rw [List.length_map] at he; exact he, h.putB (by rw [← putS_map]; exact hr) hf⟩
theorem putC3 : Calls Try.prog 40 #[.pointer (some ⟨pc, 0, none⟩), .agg #[.int .i64 n, .string (le8 n)]] w (E3 w0 pa ga pb gb pc gc room (.bool (decide (xc.length < room))) xa xb (putI xc room n)) :=
  (putP_calls pc gc room (xc.map pr8) (pr8 n) w h.c).mono fun _ _ ⟨he, hr, hf⟩ => ⟨by rw [List.length_map] at he; exact he, h.putC (by rw [← putP_map]; exact hr) hf⟩
theorem takeA3 : Calls Try.prog 41 #[.pointer (some ⟨pa, 0, none⟩)] w (E3 w0 pa ga pb gb pc gc room (.tuple #[.int .i64 (atI xa 0), .bool (inI xa 0)]) (xa.drop 1) xb xc) :=
  (takeI_calls pa ga room xa w h.a).mono fun _ _ ⟨he, hr, hf⟩ => ⟨he, h.putA hr hf⟩
theorem takeB3 : Calls Try.prog 42 #[.pointer (some ⟨pb, 0, none⟩)] w (E3 w0 pa ga pb gb pc gc room (.tuple #[.string (atS (xb.map le8) 0), .bool (inI xb 0)]) xa (xb.drop 1) xc) :=
  (takeS_calls pb gb room (xb.map le8) w h.b).mono fun _ _ ⟨he, hr, hf⟩ => ⟨by unfold inS at he; rw [List.length_map] at he; exact he, h.putB (by rw [List.map_drop]; exact hr) hf⟩
theorem takeC3 : Calls Try.prog 43 #[.pointer (some ⟨pc, 0, none⟩)] w (E3 w0 pa ga pb gb pc gc room (.tuple #[VQ (atP (xc.map pr8) 0), .bool (inI xc 0)]) xa xb (xc.drop 1)) :=
  (takeP_calls pc gc room (xc.map pr8) w h.c).mono fun _ _ ⟨he, hr, hf⟩ => ⟨by rw [List.length_map] at he; exact he, h.putC (by rw [List.map_drop]; exact hr) hf⟩
theorem dropA3 (hn : -9223372036854775808 ≤ n ∧ n ≤ 9223372036854775807) : Calls Try.prog 44 #[.pointer (some ⟨pa, 0, none⟩), .int .i64 n] w (E3 w0 pa ga pb gb pc gc room (.int .i64 (dropI xa n : Int)) (xa.drop (dropI xa n)) xb xc) :=
  (dropI_calls pa ga room xa n w h.a hn).mono fun _ _ ⟨he, hr, hf⟩ => ⟨he, h.putA hr hf⟩
theorem dropB3 (hn : -9223372036854775808 ≤ n ∧ n ≤ 9223372036854775807) : Calls Try.prog 45 #[.pointer (some ⟨pb, 0, none⟩), .int .i64 n] w (E3 w0 pa ga pb gb pc gc room (.int .i64 (dropI xb n : Int)) xa (xb.drop (dropI xb n)) xc) :=
  (dropS_calls pb gb room (xb.map le8) n w h.b hn).mono fun _ _ ⟨he, hr, hf⟩ => ⟨by rw [dropS_map] at he; exact he, h.putB (by rw [List.map_drop]; rw [dropS_map] at hr; exact hr) hf⟩
theorem dropC3 (hn : -9223372036854775808 ≤ n ∧ n ≤ 9223372036854775807) : Calls Try.prog 46 #[.pointer (some ⟨pc, 0, none⟩), .int .i64 n] w (E3 w0 pa ga pb gb pc gc room (.int .i64 (dropI xc n : Int)) xa xb (xc.drop (dropI xc n))) :=
  (dropP_calls pc gc room (xc.map pr8) n w h.c hn).mono fun _ _ ⟨he, hr, hf⟩ => ⟨by rw [dropP_map] at he; exact he, h.putC (by rw [List.map_drop]; rw [dropP_map] at hr; exact hr) hf⟩
theorem atA3 (i : Int) : Calls Try.prog 47 #[.pointer (some ⟨pa, 0, none⟩), .int .i64 i] w (E3 w0 pa ga pb gb pc gc room (.tuple #[.int .i64 (atI xa i), .bool (inI xa i)]) xa xb xc) :=
  (atI_calls pa ga room xa i w h.a).mono fun _ _ ⟨he, q, hq⟩ => ⟨he, by rw [hq]; exact h.drewN q⟩
theorem atC3 (i : Int) : Calls Try.prog 48 #[.pointer (some ⟨pc, 0, none⟩), .int .i64 i] w (E3 w0 pa ga pb gb pc gc room (.tuple #[VQ (atP (xc.map pr8) i), .bool (inI xc i)]) xa xb xc) :=
  (atP_calls pc gc room (xc.map pr8) i w h.c).mono fun _ _ ⟨he, hb⟩ => ⟨by rw [List.length_map] at he; exact he, h.below hb⟩
theorem lenA3 : Calls Try.prog 49 #[.pointer (some ⟨pa, 0, none⟩)] w fun e w' => e = .returned (.int .i64 (xa.length : Int)) ∧ w = w' := lenI_calls pa ga room xa w h.a
theorem lenB3 : Calls Try.prog 50 #[.pointer (some ⟨pb, 0, none⟩)] w fun e w' => e = .returned (.int .i64 (xb.length : Int)) ∧ w = w' := by
  have := lenS_calls pb gb room (xb.map le8) w h.b
  rw [List.length_map] at this; exact this
theorem lenC3 : Calls Try.prog 51 #[.pointer (some ⟨pc, 0, none⟩)] w fun e w' => e = .returned (.int .i64 (xc.length : Int)) ∧ w = w' := by
  have := lenP_calls pc gc room (xc.map pr8) w h.c
  rw [List.length_map] at this; exact this
end
/-- what all three tell at a place: the same, but for z where nothing is there -/
theorem at3 (xs : List Int) (i : Int) : atP (xs.map pr8) i = if inI xs i then (atI xs i, le8 (atI xs i)) else (0, ⟨#[]⟩) := by
  unfold atP atI inI
  rw [List.length_map]
  by_cases h : 0 ≤ i ∧ i < (xs.length : Int)
  · obtain ⟨k, rfl⟩ := Int.eq_ofNat_of_zero_le h.1
    have hk : k < xs.length := by have := h.2; omega
    rw [if_pos h, if_pos h, decide_eq_true h, if_pos rfl]
    simp [List.getD, hk, pr8]
  · rw [if_neg h, if_neg h, decide_eq_false h]; rfl
theorem at3s (xs : List Int) (i : Int) : atS (xs.map le8) i = (atP (xs.map pr8) i).2 := by
  rw [at3]
  unfold atS atI inI
  rw [List.length_map]
  by_cases h : 0 ≤ i ∧ i < (xs.length : Int)
  · obtain ⟨k, rfl⟩ := Int.eq_ofNat_of_zero_le h.1
    have hk : k < xs.length := by have := h.2; omega
    rw [if_pos h, decide_eq_true h, if_pos rfl, if_pos h]
    simp [List.getD, hk]
  · rw [if_neg h, decide_eq_false h]; rfl
theorem at3n (xs : List Int) (i : Int) : atI xs i = (atP (xs.map pr8) i).1 := by
  rw [at3]
  by_cases h : inI xs i = true
  · rw [if_pos h]
  · rw [if_neg h]
    unfold inI at h
    unfold atI
    rw [decide_eq_true_iff] at h
    rw [if_neg h]
end Go.Proofs.Ytepmnhlfjidhjaa
