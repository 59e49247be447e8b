/-
  SumParts, its walk.
-/
import Derived.Test.YtjmiejcgahajfaaDoorSumRuns
import Derived.Test.YtjmiejcgahajfaaDoorWithin
import Derived.Deep.RegionWith
import Derived.Maps.RangeWalk
namespace Go.Proofs.YtjmiejcgahajfaaDoor
open Go.RowKit Go.Mem

set_option maxHeartbeats 3200000 in
theorem sumParts_calls (A : Option Addr) (n cap : Nat) (bs : List UInt8) (a t : Int) (w : World) (hT : Tabs w) (hl : bs.length = n) (hn : n ≤ 140737488351232) (hcap : n ≤ cap) (hs : Sl w A (bs.map B8)) (ha : -9223372036854775808 ≤ a ∧ a ≤ 9223372036854775807) (ht : -9223372036854775808 ≤ t ∧ t ≤ 9223372036854775807) :
    Calls Tryd.prog 5 #[.slice A n cap, .int .i64 a, .int .i64 t] w fun e w' => e = .returned (.bool true) ∧ Below w.heap.size w w' := by
  have hb1 : Below w.heap.size w (w.alloc (.cells #[.slice A n cap] 26)) := (Below.refl _ _).alloc (Nat.le_refl _) _
  go_enter Tryd.func5, Tryd.ntmps5
  go_wp2_with fail
  refine (within_calls a 0 (n : Int) w (by omega) (by omega) (by omega) ha).mono ?_
  rintro e w2 ⟨rfl, rfl⟩
  have hw1 := within_ge a 0 (n : Int) (by omega)
  have hw2 := within_le a 0 (n : Int) (by omega)
  obtain ⟨i, hi⟩ := Int.eq_ofNat_of_zero_le hw1
  rw [hi] at hw2 ⊢
  clear hw1 hi
  go_wp2_with fail
  refine (within_calls t (i : Int) (n : Int) w (by omega) (by omega) (by omega) ht).mono ?_
  rintro e w2 ⟨rfl, rfl⟩
  have hk1 := within_ge t (i : Int) (n : Int) (by omega)
  have hk2 := within_le t (i : Int) (n : Int) (by omega)
  obtain ⟨k, hk⟩ := Int.eq_ofNat_of_zero_le (show 0 ≤ within t i n by omega)
  rw [hk] at hk1 hk2 ⊢
  clear hk
  go_wp2_with fail
  refine (toQ (of_calls _ 1 1 [⟨A, cap, bs⟩] _ rfl (by decide) (hT.below hb1) (Sl.new rfl (by subst hl; rfl)) (by
    intro p hp
    obtain rfl := List.mem_singleton.1 hp
    exact ⟨by simp only; omega, hs.alloc _⟩))).mono ?_
  rintro e w2 ⟨rfl, q2⟩
  rw [show Crc.crcs 0#32 (List.map Part.bs [⟨A, cap, bs⟩]) = Crc.crc 0#32 bs from rfl]
  have B2 := hb1.trans (q2.below _)
  have hT2 := hT.below B2
  have hs2 := hs.below B2
  clear hb1 q2
  have hkc : k ≤ cap := by omega
  have hic : i ≤ cap := by omega
  have hik : i ≤ k := by omega
  have hkn : k ≤ n := by omega
  have hin : i ≤ n := by omega
  have S1 := hs2.cut (k := k) (cap := cap) (by simpa [hl] using hcap)
  have S2 := hs2.cut (k := i) (cap := cap) (by simpa [hl] using hcap)
  obtain ⟨A1, hA1⟩ : ∃ A1, (if cap = k then A else Option.map (fun x => x.add k) A) = A1 := ⟨_, rfl⟩
  obtain ⟨A2, hA2⟩ : ∃ A2, (if cap = i then A else Option.map (fun x => x.add i) A) = A2 := ⟨_, rfl⟩
  rw [hA1] at S1
  rw [hA2] at S2
  have S3 : ∀ X, Below w.heap.size w X → Sl X A1 ((bs.map B8).drop k) := fun X hX => by
    rw [← hA1]; exact (hs.below hX).cut (by simpa [hl] using hcap)
  have S4 : ∀ X, Below w.heap.size w X → Sl X A2 ((bs.map B8).drop i) := fun X hX => by
    rw [← hA2]; exact (hs.below hX).cut (by simpa [hl] using hcap)
  have F1 : ∀ X, Below w.heap.size w X → Calls Tryd.prog 9 #[.slice (some ⟨X.heap.size, 0, none⟩) 4 4] (X.alloc (.cells #[.slice A i cap, .slice none 0 0, .slice A2 (k - i) (cap - i), .slice A1 (n - k) (cap - k)] 26)).drew
      fun e w' => e = .returned (.int .u32 ((Crc.crc 0#32 bs).toNat : Int)) ∧ Below w.heap.size w w' := fun X hX => by
    have hX1 := hX.alloc hX.size (.cells #[.slice A i cap, .slice none 0 0, .slice A2 (k - i) (cap - i), .slice A1 (n - k) (cap - k)] 26)
    refine (toQ (of_calls _ 4 4 [⟨A, cap, bs.take i⟩, ⟨none, 0, []⟩, ⟨A2, cap - i, (bs.drop i).take (k - i)⟩, ⟨A1, cap - k, bs.drop k⟩] _ rfl (by decide) (hT.below hX1.drew) (Sl.new (W := X.drew) rfl (by simp [Part.cell, hl, hin, hkn])) ?_)).mono fun e w' ⟨he, hq⟩ => ⟨?_, hX1.drew.trans (hq.below _)⟩
    · intro p hp
      simp only [List.mem_cons, List.not_mem_nil, or_false] at hp
      rcases hp with rfl | rfl | rfl | rfl
      · refine ⟨by simp; omega, ?_⟩
        have h := (hs.below hX1).take i
        rw [← List.map_take] at h; exact h
      · exact ⟨by simp, Sl.nil⟩
      · refine ⟨by simp; omega, ?_⟩
        have h := (S4 _ hX1).take (k - i)
        rw [← List.map_drop, ← List.map_take] at h; exact h
      · refine ⟨by simp; omega, ?_⟩
        have h := S3 _ hX1
        rw [← List.map_drop] at h; exact h
    · rw [he, Crc.crcs_flat]
      congr 5
      simp only [List.map_cons, List.map_nil, List.flatten_cons, List.flatten_nil, List.append_nil, List.nil_append]
      have h2 : bs.drop k = (bs.drop i).drop (k - i) := by rw [List.drop_drop]; congr 1; omega
      rw [h2, List.take_append_drop, List.take_append_drop]
  have F2 : ∀ X, Below w.heap.size w X → Calls Tryd.prog 9 #[.slice (some ⟨X.heap.size, 0, none⟩) 1 1] (X.alloc (.cells #[.slice A i cap] 26))
      fun e w' => e = .returned (.int .u32 ((Crc.crc 0#32 (bs.take i)).toNat : Int)) ∧ Below w.heap.size w w' := fun X hX => by
    have hX1 := hX.alloc hX.size (.cells #[.slice A i cap] 26)
    refine (toQ (of_calls _ 1 1 [⟨A, cap, bs.take i⟩] _ rfl (by decide) (hT.below hX1) (Sl.new rfl (by simp [Part.cell, hl, hin])) ?_)).mono fun e w' ⟨he, hq⟩ => ⟨he, hX1.trans (hq.below _)⟩
    intro p hp
    obtain rfl := List.mem_singleton.1 hp
    refine ⟨by simp; omega, ?_⟩
    have h := (hs.below hX1).take i
    rw [← List.map_take] at h; exact h
  have F3 : ∀ X, Below w.heap.size w X → Calls Tryd.prog 10 #[.int .u32 ((Crc.crc 0#32 (bs.take i)).toNat : Int), .slice A2 (n - i) (cap - i)] X
      fun e w' => e = .returned (.int .u32 ((Crc.crc 0#32 bs).toNat : Int)) ∧ Below w.heap.size w w' := fun X hX => by
    refine (toQ (on_calls _ A2 (n - i) (cap - i) (bs.drop i) X (by simp [hl]) (by omega) (hT.below hX) (by rw [List.map_drop]; exact S4 X hX))).mono fun e w' ⟨he, hq⟩ => ⟨?_, hX.trans (hq.below _)⟩
    rw [he, ← Crc.crc_append, List.take_append_drop]
  have F4 : ∀ X, Below w.heap.size w X → Calls Tryd.prog 10 #[.int .u32 ((Crc.crc 0#32 bs).toNat : Int), .slice none 0 0] X
      fun e w' => e = .returned (.int .u32 ((Crc.crc 0#32 bs).toNat : Int)) ∧ Below w.heap.size w w' := fun X hX => by
    refine (toQ (on_calls _ none 0 0 [] X rfl (by omega) (hT.below hX) Sl.nil)).mono fun e w' ⟨he, hq⟩ => ⟨?_, hX.trans (hq.below _)⟩
    rw [he, Crc.crc_nil]
  have F5 : ∀ X, Below w.heap.size w X → Calls Tryd.prog 3 #[] X fun e w' => e = .returned (.bool true) ∧ Below w.heap.size w w' := fun X hX =>
    (sumRuns_calls X (hT.below hX)).mono fun e w' ⟨he, hb⟩ => ⟨he, hX.trans (hb.mono hX.size)⟩
  clear S1 S2 S3 S4 hs2 hT2 hs
  generalize Crc.crc 0#32 bs = whole at F1 F3 F4 ⊢
  generalize Crc.crc 0#32 (bs.take i) = begun at F2 F3
  have G1 := Lib.hid F1
  have G2 := Lib.hid F2
  have G3 := Lib.hid F3
  have G4 := Lib.hid F4
  have G5 := Lib.hid F5
  clear F1 F2 F3 F4 F5
  go_wp2_with fail
  refine wp_region_any (by kernel_rfl) ?_
  change wpAny _ _ _ _ _ _ _ (World.drew _)
  refine wpAny_take (i := 0) (v := ?_) rfl (by kernel_rfl) (by kernel_rfl) (by kernel_rfl) (fun _ _ _ h => h) (Or.inl ⟨by rfl, ?_⟩) ?_
  rotate_left
  · first | (intro w; go_simp; done) | (intro w; go_simp; with_reducible rfl)
  change wpAny _ _ _ _ _ _ (Act.put _ (some 22) _) _
  go_frame
  refine wpAny_take (i := 1) (v := ?_) rfl (by kernel_rfl) (by kernel_rfl) (by kernel_rfl) (fun _ _ _ h => h) (Or.inl ⟨by rfl, ?_⟩) ?_
  rotate_left
  · first | (intro w; go_simp; done) | (intro w; go_simp; with_reducible rfl)
  change wpAny _ _ _ _ _ _ (Act.put _ (some 23) _) _
  go_frame
  refine wpAny_take (i := 2) (v := ?_) rfl (by kernel_rfl) (by kernel_rfl) (by kernel_rfl) (fun _ _ _ h => h) (Or.inl ⟨by rfl, ?_⟩) ?_
  rotate_left
  · first | (intro w; go_simp; done) | (intro w; go_simp; with_reducible rfl)
  change wpAny _ _ _ _ _ _ (Act.put _ (some 24) _) _
  go_frame
  refine wpAny_take (i := 3) (v := ?_) rfl (by kernel_rfl) (by kernel_rfl) (by kernel_rfl) (fun _ _ _ h => h) (Or.inl ⟨by rfl, ?_⟩) ?_
  rotate_left
  · first | (intro w; go_simp; done) | (intro w; go_simp; with_reducible rfl)
  change wpAny _ _ _ _ _ _ (Act.put _ (some 25) _) _
  go_frame
  refine wpAny_take (i := 4) (v := ?_) rfl (by kernel_rfl) (by kernel_rfl) (by kernel_rfl) (fun _ _ _ h => h) (Or.inl ⟨by rfl, ?_⟩) ?_
  rotate_left
  · first | (intro w; go_simp; done) | (intro w; go_simp; with_reducible rfl)
  change wpAny _ _ _ _ _ _ (Act.put _ (some 26) _) _
  go_frame
  refine wpAny_take (i := 5) (v := ?_) rfl (by kernel_rfl) (by kernel_rfl) (by kernel_rfl) (fun _ _ _ h => h) (Or.inl ⟨by rfl, ?_⟩) ?_
  rotate_left
  · first | (intro w; go_simp; done) | (intro w; go_simp; with_reducible rfl)
  change wpAny _ _ _ _ _ _ (Act.put _ (some 27) _) _
  go_frame
  refine wpAny_take (i := 6) (v := ?_) rfl (by kernel_rfl) (by kernel_rfl) (by kernel_rfl) (fun _ _ _ h => h) (Or.inl ⟨by rfl, ?_⟩) ?_
  rotate_left
  · first | (intro w; go_simp; done) | (intro w; go_simp; with_reducible rfl)
  change wpAny _ _ _ _ _ _ (Act.put _ (some 28) _) _
  go_frame
  refine wpAny_take (i := 7) (v := ?_) rfl (by kernel_rfl) (by kernel_rfl) (by kernel_rfl) (fun _ _ _ h => h) (Or.inl ⟨by rfl, ?_⟩) ?_
  rotate_left
  · first | (intro w; go_simp; done) | (intro w; go_simp; with_reducible rfl)
  change wpAny _ _ _ _ _ _ (Act.put _ (some 29) _) _
  go_frame
  refine wpAny_take (i := 8) (v := ?_) rfl (by kernel_rfl) (by kernel_rfl) (by kernel_rfl) (fun _ _ _ h => h) (Or.inl ⟨by rfl, ?_⟩) ?_
  rotate_left
  · first | (intro w; go_simp; done) | (intro w; go_simp; with_reducible rfl)
  change wpAny _ _ _ _ _ _ (Act.put _ (some 30) _) _
  go_frame
  refine wpAny_take (i := 9) (v := ?_) rfl (by kernel_rfl) (by kernel_rfl) (by kernel_rfl) (fun _ _ _ h => h) (Or.inl ⟨by rfl, ?_⟩) ?_
  rotate_left
  · first | (intro w; go_simp; done) | (intro w; go_simp; with_reducible rfl)
  change wpAny _ _ _ _ _ _ (Act.put _ (some 31) _) _
  go_frame
  refine wpAny_take (i := 12) (v := ?_) rfl (by kernel_rfl) (by kernel_rfl) (by kernel_rfl) (fun _ _ _ h => h) (Or.inl ⟨by rfl, ?_⟩) ?_
  rotate_left
  · first | (intro w; go_simp; done) | (intro w; go_simp; with_reducible rfl)
  change wpAny _ _ _ _ _ _ (Act.put _ (some 34) _) _
  go_frame
  refine wpAny_ready (rs := [10]) (by kernel_rfl) (by simp) ?_
  refine AllReady.cons rfl (fun K hK => ?_) AllReady.nil
  go_simp
  refine hK _ _ ?_
  clear hK K
  refine wpAny_ready (rs := [11]) (by kernel_rfl) (by simp) ?_
  refine AllReady.cons rfl (fun K hK => ?_) AllReady.nil
  go_simp
  refine (G1.out w2 B2).mono ?_
  rintro e w3 ⟨rfl, B3⟩
  simp only []
  refine hK _ _ ?_
  clear hK K
  refine wpAny_take (i := 13) (v := ?_) rfl (by kernel_rfl) (by kernel_rfl) (by kernel_rfl) (fun _ _ _ h => h) (Or.inl ⟨by rfl, ?_⟩) ?_
  rotate_left
  · first | (intro w; go_simp; done) | (intro w; go_simp; with_reducible rfl)
  change wpAny _ _ _ _ _ _ (Act.put _ (some 35) _) _
  go_frame
  refine wpAny_take (i := 14) (v := ?_) rfl (by kernel_rfl) (by kernel_rfl) (by kernel_rfl) (fun _ _ _ h => h) (Or.inl ⟨by rfl, ?_⟩) ?_
  rotate_left
  · first | (intro w; go_simp; done) | (intro w; go_simp; with_reducible rfl)
  change wpAny _ _ _ _ _ _ (Act.put _ (some 36) _) _
  go_frame
  refine wpAny_take (i := 15) (v := ?_) rfl (by kernel_rfl) (by kernel_rfl) (by kernel_rfl) (fun _ _ _ h => h) (Or.inl ⟨by rfl, ?_⟩) ?_
  rotate_left
  · first | (intro w; go_simp; done) | (intro w; go_simp; with_reducible rfl)
  change wpAny _ _ _ _ _ _ (Act.put _ (some 37) _) _
  go_frame
  refine wpAny_take (i := 16) (v := ?_) rfl (by kernel_rfl) (by kernel_rfl) (by kernel_rfl) (fun _ _ _ h => h) (Or.inl ⟨by rfl, ?_⟩) ?_
  rotate_left
  · first | (intro w; go_simp; done) | (intro w; go_simp; with_reducible rfl)
  change wpAny _ _ _ _ _ _ (Act.put _ (some 38) _) _
  go_frame
  refine wpAny_take (i := 17) (v := ?_) rfl (by kernel_rfl) (by kernel_rfl) (by kernel_rfl) (fun _ _ _ h => h) (Or.inl ⟨by rfl, ?_⟩) ?_
  rotate_left
  · first | (intro w; go_simp; done) | (intro w; go_simp; with_reducible rfl)
  change wpAny _ _ _ _ _ _ (Act.put _ (some 39) _) _
  go_frame
  refine wpAny_take (i := 20) (v := ?_) rfl (by kernel_rfl) (by kernel_rfl) (by kernel_rfl) (fun _ _ _ h => h) (Or.inl ⟨by rfl, ?_⟩) ?_
  rotate_left
  · first | (intro w; go_simp; done) | (intro w; go_simp; with_reducible rfl)
  change wpAny _ _ _ _ _ _ (Act.put _ (some 42) _) _
  go_frame
  refine wpAny_take (i := 21) (v := ?_) rfl (by kernel_rfl) (by kernel_rfl) (by kernel_rfl) (fun _ _ _ h => h) (Or.inl ⟨by rfl, ?_⟩) ?_
  rotate_left
  · first | (intro w; go_simp; done) | (intro w; go_simp; with_reducible rfl)
  change wpAny _ _ _ _ _ _ (Act.put _ (some 43) _) _
  go_frame
  refine wpAny_take (i := 22) (v := ?_) rfl (by kernel_rfl) (by kernel_rfl) (by kernel_rfl) (fun _ _ _ h => h) (Or.inl ⟨by rfl, ?_⟩) ?_
  rotate_left
  · first | (intro w; go_simp; done) | (intro w; go_simp; with_reducible rfl)
  change wpAny _ _ _ _ _ _ (Act.put _ (some 44) _) _
  go_frame
  refine wpAny_take (i := 24) (v := ?_) rfl (by kernel_rfl) (by kernel_rfl) (by kernel_rfl) (fun _ _ _ h => h) (Or.inl ⟨by rfl, ?_⟩) ?_
  rotate_left
  · first | (intro w; go_simp; done) | (intro w; go_simp; with_reducible rfl)
  change wpAny _ _ _ _ _ _ (Act.put _ (some 46) _) _
  go_frame
  refine wpAny_ready (rs := [18]) (by kernel_rfl) (by simp) ?_
  refine AllReady.cons rfl (fun K hK => ?_) AllReady.nil
  go_simp
  refine hK _ _ ?_
  clear hK K
  refine wpAny_ready (rs := [19]) (by kernel_rfl) (by simp) ?_
  refine AllReady.cons rfl (fun K hK => ?_) AllReady.nil
  go_simp
  refine (G2.out w3 B3).mono ?_
  rintro e w4 ⟨rfl, B4⟩
  simp only []
  refine hK _ _ ?_
  clear hK K
  refine wpAny_ready (rs := [23]) (by kernel_rfl) (by simp) ?_
  refine AllReady.cons rfl (fun K hK => ?_) AllReady.nil
  go_simp
  refine (G3.out w4 B4).mono ?_
  rintro e w5 ⟨rfl, B5⟩
  simp only []
  refine hK _ _ ?_
  clear hK K
  refine wpAny_take (i := 25) (v := ?_) rfl (by kernel_rfl) (by kernel_rfl) (by kernel_rfl) (fun _ _ _ h => h) (Or.inl ⟨by rfl, ?_⟩) ?_
  rotate_left
  · first | (intro w; go_simp; done) | (intro w; go_simp; with_reducible rfl)
  change wpAny _ _ _ _ _ _ (Act.put _ (some 47) _) _
  go_frame
  refine wpAny_take (i := 26) (v := ?_) rfl (by kernel_rfl) (by kernel_rfl) (by kernel_rfl) (fun _ _ _ h => h) (Or.inl ⟨by rfl, ?_⟩) ?_
  rotate_left
  · first | (intro w; go_simp; done) | (intro w; go_simp; with_reducible rfl)
  change wpAny _ _ _ _ _ _ (Act.put _ (some 48) _) _
  go_frame
  refine wpAny_take (i := 27) (v := ?_) rfl (by kernel_rfl) (by kernel_rfl) (by kernel_rfl) (fun _ _ _ h => h) (Or.inl ⟨by rfl, ?_⟩) ?_
  rotate_left
  · first | (intro w; go_simp; done) | (intro w; go_simp; with_reducible rfl)
  change wpAny _ _ _ _ _ _ (Act.put _ (some 49) _) _
  go_frame
  refine wpAny_take (i := 28) (v := ?_) rfl (by kernel_rfl) (by kernel_rfl) (by kernel_rfl) (fun _ _ _ h => h) (Or.inl ⟨by rfl, ?_⟩) ?_
  rotate_left
  · first | (intro w; go_simp; done) | (intro w; go_simp; with_reducible rfl)
  change wpAny _ _ _ _ _ _ (Act.put _ (some 50) _) _
  go_frame
  refine wpAny_take (i := 30) (v := ?_) rfl (by kernel_rfl) (by kernel_rfl) (by kernel_rfl) (fun _ _ _ h => h) (Or.inl ⟨by rfl, ?_⟩) ?_
  rotate_left
  · first | (intro w; go_simp; done) | (intro w; go_simp; with_reducible rfl)
  change wpAny _ _ _ _ _ _ (Act.put _ (some 52) _) _
  go_frame
  refine wpAny_ready (rs := [29]) (by kernel_rfl) (by simp) ?_
  refine AllReady.cons rfl (fun K hK => ?_) AllReady.nil
  go_simp
  refine (G4.out w5 B5).mono ?_
  rintro e w6 ⟨rfl, B6⟩
  simp only []
  refine hK _ _ ?_
  clear hK K
  refine wpAny_take (i := 31) (v := ?_) rfl (by kernel_rfl) (by kernel_rfl) (by kernel_rfl) (fun _ _ _ h => h) (Or.inl ⟨by rfl, ?_⟩) ?_
  rotate_left
  · first | (intro w; go_simp; done) | (intro w; go_simp; with_reducible rfl)
  change wpAny _ _ _ _ _ _ (Act.put _ (some 53) _) _
  go_frame
  refine wpAny_take (i := 32) (v := ?_) rfl (by kernel_rfl) (by kernel_rfl) (by kernel_rfl) (fun _ _ _ h => h) (Or.inl ⟨by rfl, ?_⟩) ?_
  rotate_left
  · first | (intro w; go_simp; done) | (intro w; go_simp; with_reducible rfl)
  change wpAny _ _ _ _ _ _ (Act.put _ (some 54) _) _
  go_frame
  refine wpAny_take (i := 33) (v := ?_) rfl (by kernel_rfl) (by kernel_rfl) (by kernel_rfl) (fun _ _ _ h => h) (Or.inl ⟨by rfl, ?_⟩) ?_
  rotate_left
  · first | (intro w; go_simp; done) | (intro w; go_simp; with_reducible rfl)
  change wpAny _ _ _ _ _ _ (Act.put _ (some 55) _) _
  go_frame
  refine wpAny_ready (rs := [34]) (by kernel_rfl) (by simp) ?_
  refine AllReady.cons rfl (fun K hK => ?_) AllReady.nil
  go_simp
  refine (G5.out w6 B6).mono ?_
  rintro e w7 ⟨rfl, B7⟩
  simp only []
  refine hK _ _ ?_
  clear hK K
  refine wpAny_take (i := 35) (v := ?_) rfl (by kernel_rfl) (by kernel_rfl) (by kernel_rfl) (fun _ _ _ h => h) (Or.inl ⟨by rfl, ?_⟩) ?_
  rotate_left
  · first | (intro w; go_simp; done) | (intro w; go_simp; with_reducible rfl)
  change wpAny _ _ _ _ _ _ (Act.put _ (some 57) _) _
  go_frame
  refine wpAny_take (i := 36) (v := ?_) rfl (by kernel_rfl) (by kernel_rfl) (by kernel_rfl) (fun _ _ _ h => h) (Or.inl ⟨by rfl, ?_⟩) ?_
  rotate_left
  · first | (intro w; go_simp; done) | (intro w; go_simp; with_reducible rfl)
  change wpAny _ _ _ _ _ _ (Act.put _ (some 6) _) _
  go_frame
  refine wpAny_done (by kernel_rfl) ?_ _
  go_wp2
  go_ret
  exact ⟨rfl, B7⟩
end Go.Proofs.YtjmiejcgahajfaaDoor
