/-
  The contract of spoorlaw4.step: the calls that turn the rows.
-/
import Derived.Test.YtepmnhlfjidhjaaTabStep2
import Derived.Deep.AppendLies
namespace Go.Proofs.Ytepmnhlfjidhjaa
open Go.RowKit Go.Mem Go.Proofs

section
variable {w : World} {B : Nat} {e t : TypeId} (o : Obj) {sz : Nat}
theorem emA (h : B ≤ w.heap.size) : OwnB ((w.alloc (.cells #[] e)).drew) B e sz (some ⟨w.heap.size, 0, none⟩) 0 0 [] := (OwnB.empty rfl h).drewN 1
theorem emB (h : B ≤ w.heap.size) : OwnB (((w.alloc (.cells #[] e)).alloc o).drew) B e sz (some ⟨w.heap.size, 0, none⟩) 0 0 [] := ((OwnB.empty rfl h).alloc o).drewN 1
theorem emC (h : B ≤ w.heap.size) : OwnB (((w.alloc o).alloc (.cells #[] e)).drew) B e sz (some ⟨w.heap.size + 1, 0, none⟩) 0 0 [] := (OwnB.empty (W := w.alloc o) (by simp) (by omega)).drewN 1
theorem beA {a : World} (h : Below B a w) (hB : B ≤ w.heap.size) : Below B a (w.alloc o).drew := (h.alloc hB o).drew
theorem beB {a : World} (h : Below B a w) (hB : B ≤ w.heap.size) (o' : Obj) : Below B a ((w.alloc o).alloc o').drew := ((h.alloc hB o).alloc (by simp; omega) o').drew
theorem bkB (C : Array Value) : Blk (((w.alloc o).alloc (.cells C t)).drew) (w.heap.size + 1) t C.toList := by
  have h := Blk.new (w.alloc o) t C
  simpa using h.drew
theorem bkC (C : Array Value) : Blk (((w.alloc (.cells C t)).alloc o).drew) w.heap.size t C.toList := ((Blk.new w t C).alloc o).drew
theorem ze3 {sz n c : Nat} {D : Option Addr} {pre : List Value} (h : OwnB w B e sz D (0 + n) c ([] ++ pre)) : OwnB w B e sz D n c pre := by simpa using h
theorem ze4 {sz n c : Nat} {D : Option Addr} {pre : List Value} (h : OwnB w B e sz D (0 + n) c ([] ++ pre)) : OwnB w B e sz D (0 + n) c pre := h
end
theorem own_cast {w : World} {B : Nat} {e : TypeId} {sz k k' c : Nat} {D : Option Addr} {xs xs' : List Value} (h : OwnB w B e sz D k c xs) (hk : k = k') (hx : xs = xs') : OwnB w B e sz D k' c xs' := by subst hk hx; exact h
theorem srcP {w : World} {A : Option Addr} {n c : Nat} {l : List (Int × Int)} (h : Sl w A (flatP l)) (hl : l.length = n) : Src Try.prog 2 97 (.slice A n c) n (flatP l) w :=
  srcOfSl Try.underlying97 (by rw [flatP_length, hl]) (fun e => List.eq_nil_of_length_eq_zero (by rw [flatP_length]; omega)) h (fun e => by have h0 := h.none_nil e; have h1 := flatP_length l; rw [h0] at h1; simp at h1; omega) (flatP_one _)
theorem slT {w : World} {A : Option Addr} {l : List (Int × Int)} (h : Sl w A (flatP l)) (i : Nat) : Sl w A (flatP (l.take i)) := by rw [flatP_take]; exact h.take _
theorem slD {w : World} {g : Nat} {l : List (Int × Int)} (h : Sl w (some ⟨g, 0, none⟩) (flatP l)) (i : Nat) : Sl w (some ⟨g, i * 2, none⟩) (flatP (l.drop i)) := by
  rw [flatP_drop]
  intro j v hv
  rw [List.getElem?_drop] at hv
  obtain ⟨b, o, e, hc⟩ := h _ v hv
  injection e with e
  injection e with e1 e2
  subst e1 e2
  exact ⟨g, i * 2, rfl, by rw [Nat.zero_add] at hc; exact hc⟩


set_option maxRecDepth 100000 in
set_option maxHeartbeats 3200000 in
theorem step_delIn (B p m c i : Nat) (DK DV D : Option Addr) (ps : List (Int × Int)) (k v : Int) (w : World) (h : StP w B p DK DV D c ps) (hat : Tab.At ltI (ps.map (·.1)) k i) (hm : ps.length ≤ m) (hm2 : m ≤ 1000) (hB : B ≤ w.heap.size) (hf : (ps.map (·.1))[i]? = some k) :
    Calls Try.prog 63 #[.pointer (some ⟨p, 0, none⟩), .slice D ps.length c, .agg #[.int .i64 3, .int .i64 k, .int .i64 v]] w (StEnds w B p (m + 1)) := by
  have hal : Below w.heap.size w (w.alloc (.cells #[.int .i64 3, .int .i64 k, .int .i64 v] 101)) := (Below.refl _ _).alloc (Nat.le_refl _) _
  have HBq := Lib.hid (Blk.new w 101 #[.int .i64 3, .int .i64 k, .int .i64 v])
  have HH := Lib.hid (h.below hal)
  have HB := Lib.hid (hal.mono hB)
  have HP := Lib.hid (place_calls D ps.length c ps k i (w.alloc (.cells #[.int .i64 3, .int .i64 k, .int .i64 v] 101)) rfl (by omega) HH.out.o.sl hat)
  have hil : i ≤ ps.length := by simpa using hat.1
  have HAT := Lib.hid hat
  have hin := decide_eq_true hf
  rw [hin] at HP
  have hlt : i < ps.length := by have := (List.getElem?_eq_some_iff.1 hf).1; simpa using this

  clear hal h hat
  go_enter Try.func63, Try.ntmps63
  go_wp2_with fail
  refine HP.out.mono ?_
  rintro e w2 ⟨rfl, q2, hq2⟩
  have H2 : Hid (StP w2 B p DK DV D c ps) := (show StP _ _ _ _ _ _ _ _ from by rw [hq2]; exact HH.out.drewN _)
  have HB2 : Hid (Below B w w2) := (show Below _ _ _ from by rw [hq2]; exact below_drewN HB.out _)
  have HQ2 : Hid (Blk w2 w.heap.size 101 [.int .i64 3, .int .i64 k, .int .i64 v]) := (show Blk _ _ _ _ from by rw [hq2]; exact HBq.out)
  have hB2 : B ≤ w2.heap.size := Nat.le_trans hB HB2.out.size
  clear HP HH HB HBq hq2 hB
  generalize w.heap.size = q at HQ2 ⊢
  have k0 := HQ2.out.cell 0
  have k1 := HQ2.out.cell 1
  have k2 := HQ2.out.cell 2
  simp only [List.getElem?_cons_zero, List.getElem?_cons_succ] at k0 k1 k2
  have HG := Lib.hid (delII_yes B p DK DV (ps.map (·.1)) (ps.map (·.2)) k i w2 H2.out.t H2.out.r HAT.out (by simp; omega) hf hB2)
  unfold TEndsII at HG
  have hnc : ps.length ≤ c := H2.out.o.2.1
  obtain ⟨g, hg⟩ : ∃ g, D = some ⟨g, 0, none⟩ := by rcases H2.out.o.2.2 with ⟨_, h0, _⟩ | ⟨g, _, h0, _⟩; omega; exact ⟨g, h0⟩
  subst hg
  obtain ⟨j0, hj, hy0, hy1, hy2⟩ := info_parts infoP
  have HF := Lib.hid hf
  have i0 : (0 : Int) ≤ (i : Int) := Int.natCast_nonneg _
  have i1 : (i : Int) ≤ (c : Int) := by omega
  have i2 : (0 : Int) ≤ (i : Int) + 1 := by omega
  have i5 : (i : Int) ≤ (i : Int) + 1 := by omega
  have i3 : (i : Int) + 1 ≤ (ps.length : Int) := by omega
  clear hf hin
  go_wp2_with fail
  refine HG.out.mono ?_
  rintro e w3 ⟨rfl, D', V', t3, kp3, _, _, b3⟩
  have HT3 := Lib.hid t3
  have HO3 := Lib.hid (kp_own H2.out.t kp3 H2.out.o (by decide) (by decide))
  have HB3 := Lib.hid (HB2.out.trans b3)
  have HQ3 := Lib.hid (kp_blk H2.out.t kp3 HQ2.out (by decide) (by decide))
  have hB3 : B ≤ w3.heap.size := Nat.le_trans hB2 b3.size
  have k0' := HQ3.out.cell 0
  simp only [List.getElem?_cons_zero] at k0'
  clear t3 kp3 b3 k0 k1 k2 HG HB2 HQ2
  have HS3 := Lib.hid HO3.out.sl
  have HN3 : Hid ((ps.take i).length = i) := (show _ = _ by rw [List.length_take]; omega)
  have hnc' : (ps.length : Int) ≤ (c : Int) := by omega
  have hwr : IntKind.i64.wrap ((i : Int) + 1) = (i : Int) + 1 := IntWalk.i64_in _ (by omega)
  have HFin : Hid (∀ D5 c5 w5 n5, n5 = i + (ps.length - (i + 1)) → OwnB w5 w3.heap.size 104 2 D5 n5 c5 (flatP (ps.take i) ++ flatP (ps.drop (i + 1))) → Below w3.heap.size w3 w5 → StEnds w B p (m + 1) (.returned (.tuple #[.slice D5 n5 c5, .bool true])) w5) := (show ∀ D5 c5 w5 n5, _ → _ → _ → _ from fun D5 c5 w5 n5 hn5 h5 b5 => ⟨D5, _, c5, D', V', ps.take i ++ ps.drop (i + 1), rfl, by simp; omega, ⟨by have h := HT3.out.below b5; simpa [List.map_take, List.map_drop] using h, by have h := H2.out.r.del i; simpa [List.map_take, List.map_drop] using h, by
      rw [flatP_app]
      have e : (ps.take i ++ ps.drop (i + 1)).length = n5 := by simp; omega
      rw [e]
      exact h5.mono hB3⟩, by simp; omega, HB3.out.trans (b5.mono hB3)⟩)
  by_cases hcg : c = i + 1
  · subst hcg
    have HR : Hid (∀ W : World, Below w3.heap.size w3 W → Src Try.prog 2 97 (.slice (some ⟨g, 0, none⟩) 0 0) 0 (flatP ([] : List (Int × Int))) W) := (show ∀ W : World, _ → _ from fun W hb => srcP Sl.nil rfl)
    have HD0 : Hid (ps.drop (i + 1) = []) := (show _ = _ from List.drop_eq_nil_of_le (by omega))
    clear HT3 HO3 HB3 H2 HQ3 HAT
    go_wp2_with fail
    go_region_held3 (fun w' => w'.cell? ⟨q, 0, none⟩ = some (.int .i64 3)) (first | exact c5' | exact c4' | go_keep) (first | (refine step_append_ownK (o := ⟨some 102, _, _, _, _, _⟩) (by rfl) (.tmp 98) (.tmp 101) 97 97 (by rfl) 104 j0 (.agg #[.int .i64 0, Value.int .i64 0]) 2 16 Try.underlying97 hj hy0 hy1 hy2 rfl w3.heap.size _ 0 0 [] (by rfl) (emA (Nat.le_refl _)) (.slice (some ⟨g, 0, none⟩) i (i + 1)) (by rfl) i (flatP (ps.take i)) (srcP (slT (HS3.out.alloc _).drew i) HN3.out) (by omega) (by omega) w3 (beA _ (Below.refl _ _) (Nat.le_refl _)) (by simp; try omega) ?_; intro w4 D4 c4 HO4 HK4 hb4 hsz4; have HO4' := Lib.hid (ze3 HO4.out); have hsz4' := hb4.size; have c4' := keepW3 hb4 k0') | (refine step_append_ownK (o := ⟨some 107, _, _, _, _, _⟩) (by rfl) (.tmp 102) (.tmp 106) 97 97 (by rfl) 104 j0 (.agg #[.int .i64 0, Value.int .i64 0]) 2 16 Try.underlying97 hj hy0 hy1 hy2 rfl w3.heap.size D4 _ c4 (flatP (ps.take i)) (by rfl) (by first | exact HO4'.out | exact ze4 HO4.out) _ (by rfl) 0 (flatP ([] : List (Int × Int))) (HR.out _ hb4) (by omega) (by omega) w3 hb4 hsz4' ?_; intro w5 D5 c5 HO5 HK5 hb5 hsz5; have c5' := keepW3 hb5 k0'; have HO5' := Lib.hid (own_cast HO5.out rfl (xs' := flatP (ps.take i) ++ flatP (ps.drop (i + 1))) (by rw [HD0.out]))))
    all_goals
      have HF5 := Lib.hid (fun n5 hn5 hk => HFin.out D5 c5 w5 n5 hn5 (own_cast HO5'.out hk rfl) hb5)
      clear HFin HO4 HO4' HK4 HK5 HO5 HO5' hb4 hb5 hsz4 hsz5 hsz4' c4' c5' HR
      go_wp2_with fail
      go_ret2
      exact HF5.out _ (by omega) (by omega)
  · have HR : Hid (∀ W : World, Below w3.heap.size w3 W → Src Try.prog 2 97 (.slice (some ⟨g, (i + 1) * 2, none⟩) (ps.length - (i + 1)) (c - (i + 1))) (ps.length - (i + 1)) (flatP (ps.drop (i + 1))) W) := (show ∀ W : World, _ → _ from fun W hb => srcP (slD (HS3.out.below hb) (i + 1)) (by rw [List.length_drop]))
    clear HT3 HO3 HB3 H2 HQ3 HAT
    go_wp2_with fail
    go_region_held3 (fun w' => w'.cell? ⟨q, 0, none⟩ = some (.int .i64 3)) (first | exact c5' | exact c4' | go_keep) (first | (refine step_append_ownK (o := ⟨some 102, _, _, _, _, _⟩) (by rfl) (.tmp 98) (.tmp 101) 97 97 (by rfl) 104 j0 (.agg #[.int .i64 0, Value.int .i64 0]) 2 16 Try.underlying97 hj hy0 hy1 hy2 rfl w3.heap.size _ 0 0 [] (by rfl) (emA (Nat.le_refl _)) (.slice (some ⟨g, 0, none⟩) i c) (by rfl) i (flatP (ps.take i)) (srcP (slT (HS3.out.alloc _).drew i) HN3.out) (by omega) (by omega) w3 (beA _ (Below.refl _ _) (Nat.le_refl _)) (by simp; try omega) ?_; intro w4 D4 c4 HO4 HK4 hb4 hsz4; have HO4' := Lib.hid (ze3 HO4.out); have hsz4' := hb4.size; have c4' := keepW3 hb4 k0') | (refine step_append_ownK (o := ⟨some 107, _, _, _, _, _⟩) (by rfl) (.tmp 102) (.tmp 106) 97 97 (by rfl) 104 j0 (.agg #[.int .i64 0, Value.int .i64 0]) 2 16 Try.underlying97 hj hy0 hy1 hy2 rfl w3.heap.size D4 _ c4 (flatP (ps.take i)) (by rfl) (by first | exact HO4'.out | exact ze4 HO4.out) _ (by rfl) (ps.length - (i + 1)) (flatP (ps.drop (i + 1))) (HR.out _ hb4) (by omega) (by omega) w3 hb4 hsz4' ?_; intro w5 D5 c5 HO5 HK5 hb5 hsz5; have c5' := keepW3 hb5 k0'; have HO5' := Lib.hid HO5.out))
    all_goals
      have HF5 := Lib.hid (fun n5 hn5 hk => HFin.out D5 c5 w5 n5 hn5 (own_cast HO5'.out hk rfl) hb5)
      clear HFin HO4 HO4' HK4 HK5 HO5 HO5' hb4 hb5 hsz4 hsz5 hsz4' c4' c5' HR
      go_wp2_with fail
      go_ret2
      exact HF5.out _ (by omega) (by omega)
end Go.Proofs.Ytepmnhlfjidhjaa
