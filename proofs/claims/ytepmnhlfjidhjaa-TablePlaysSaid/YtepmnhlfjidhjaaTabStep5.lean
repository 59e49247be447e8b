/-
  The contract of spoorlaw4.step: Set.
-/
import Derived.Test.YtepmnhlfjidhjaaTabStep3
namespace Go.Proofs.Ytepmnhlfjidhjaa
open Go.RowKit Go.Mem Go.Proofs


set_option maxRecDepth 100000 in
set_option maxHeartbeats 3200000 in
theorem step_setNew (B p m c i : Nat) (DK DV D : Option Addr) (ps : List (Int × Int)) (k v : Int) (w : World) (h : StP w B p DK DV D c ps) (hat : Tab.At ltI (ps.map (·.1)) k i) (hm : ps.length ≤ m) (hm2 : m ≤ 1000) (hB : B ≤ w.heap.size) (hf : (ps.map (·.1))[i]? ≠ some k) :
    Calls Try.prog 63 #[.pointer (some ⟨p, 0, none⟩), .slice D ps.length c, .agg #[.int .i64 1, .int .i64 k, .int .i64 v]] w (StEnds w B p (m + 1)) := by
  have hal : Below w.heap.size w (w.alloc (.cells #[.int .i64 1, .int .i64 k, .int .i64 v] 101)) := (Below.refl _ _).alloc (Nat.le_refl _) _
  have HBq := Lib.hid (Blk.new w 101 #[.int .i64 1, .int .i64 k, .int .i64 v])
  have HH := Lib.hid (h.below hal)
  have HB := Lib.hid (hal.mono hB)
  have HP := Lib.hid (place_calls D ps.length c ps k i (w.alloc (.cells #[.int .i64 1, .int .i64 k, .int .i64 v] 101)) rfl (by omega) HH.out.o.sl hat)
  have hil : i ≤ ps.length := by simpa using hat.1
  have HAT := Lib.hid hat
  have hin := decide_eq_false hf
  rw [hin] at HP

  clear hal h hat
  go_enter Try.func63, Try.ntmps63
  go_wp2_with fail
  refine HP.out.mono ?_
  rintro e w2 ⟨rfl, q2, hq2⟩
  have H2 : Hid (StP w2 B p DK DV D c ps) := (show StP _ _ _ _ _ _ _ _ from by rw [hq2]; exact HH.out.drewN _)
  have HB2 : Hid (Below B w w2) := (show Below _ _ _ from by rw [hq2]; exact below_drewN HB.out _)
  have HQ2 : Hid (Blk w2 w.heap.size 101 [.int .i64 1, .int .i64 k, .int .i64 v]) := (show Blk _ _ _ _ from by rw [hq2]; exact HBq.out)
  have hB2 : B ≤ w2.heap.size := Nat.le_trans hB HB2.out.size
  clear HP HH HB HBq hq2 hB
  generalize w.heap.size = q at HQ2 ⊢
  have k0 := HQ2.out.cell 0
  have k1 := HQ2.out.cell 1
  have k2 := HQ2.out.cell 2
  simp only [List.getElem?_cons_zero, List.getElem?_cons_succ] at k0 k1 k2
  have HG := Lib.hid (setII_new B p DK DV (ps.map (·.1)) (ps.map (·.2)) k v i w2 H2.out.t H2.out.r HAT.out (by simp; omega) hf hB2)
  unfold TEndsII at HG
  have hnc : ps.length ≤ c := H2.out.o.2.1
  obtain ⟨j0, hj, hy0, hy1, hy2⟩ := info_parts infoP
  have HF := Lib.hid hf
  have i0 : (0 : Int) ≤ (i : Int) := Int.natCast_nonneg _
  have i1 : (i : Int) ≤ (c : Int) := by omega
  have i4 : (i : Int) ≤ (ps.length : Int) := by omega
  have i2 : (0 : Int) ≤ (i : Int) + 1 := by omega
  have i5 : (i : Int) ≤ (i : Int) + 1 := by omega
  clear hf hin
  go_wp2_with fail
  refine HG.out.mono ?_
  rintro e w3 ⟨rfl, D', V', t3, kp3, _, _, b3⟩
  have HT3 := Lib.hid t3
  have HO3 := Lib.hid (kp_own H2.out.t kp3 H2.out.o (by decide) (by decide))
  have HB3 := Lib.hid (HB2.out.trans b3)
  have HQ3 := Lib.hid (kp_blk H2.out.t kp3 HQ2.out (by decide) (by decide))
  have hB3 : B ≤ w3.heap.size := Nat.le_trans hB2 b3.size
  have k0' := HQ3.out.cell 0
  have k1' := HQ3.out.cell 1
  have k2' := HQ3.out.cell 2
  simp only [List.getElem?_cons_zero, List.getElem?_cons_succ] at k0' k1' k2'
  clear t3 kp3 b3 k0 k1 k2 HG HB2 HQ2
  have HS3 := Lib.hid HO3.out.sl
  have HN3 : Hid ((ps.take i).length = i) := (show _ = _ by rw [List.length_take]; omega)
  have hnc' : (ps.length : Int) ≤ (c : Int) := by omega
  have hwr : IntKind.i64.wrap ((i : Int) + 1) = (i : Int) + 1 := IntWalk.i64_in _ (by omega)
  have HFin : Hid (∀ D5 c5 w5 n5, n5 = i + 1 + (ps.length - i) → OwnB w5 w3.heap.size 104 2 D5 n5 c5 (flatP (ps.take i) ++ [.int .i64 k, .int .i64 v] ++ flatP (ps.drop i)) → Below w3.heap.size w3 w5 → StEnds w B p (m + 1) (.returned (.tuple #[.slice D5 n5 c5, .bool true])) w5) := (show ∀ D5 c5 w5 n5, _ → _ → _ → _ from fun D5 c5 w5 n5 hn5 h5 b5 => ⟨D5, _, c5, D', V', ps.take i ++ (k, v) :: ps.drop i, rfl, by simp; omega, ⟨by have h := HT3.out.below b5; simpa [List.map_take, List.map_drop] using h, by have h := H2.out.r; have h := h.ins ordI HAT.out HF.out; simpa [List.map_take, List.map_drop] using h, by
      have e : (ps.take i ++ (k, v) :: ps.drop i).length = n5 := by simp; omega
      rw [e]
      exact own_cast (h5.mono hB3) rfl (by simp [flatP_app, flatP_cons])⟩, by simp; omega, HB3.out.trans (b5.mono hB3)⟩)
  by_cases hcg : c = i
  · obtain rfl := hcg.symm
    have HR : Hid (∀ W : World, Below w3.heap.size w3 W → Src Try.prog 2 97 (.slice D 0 0) 0 (flatP ([] : List (Int × Int))) W) := (show ∀ W : World, _ → _ from fun W hb => srcP Sl.nil rfl)
    have HD0 : Hid (ps.drop i = []) := (show _ = _ from List.drop_eq_nil_of_le (by omega))
    clear HT3 HO3 HB3 H2 HQ3 HAT HF
    go_wp2_with fail
    go_region_held3 (fun w' => w'.cell? ⟨q, 1, none⟩ = some (.int .i64 k) ∧ w'.cell? ⟨q, 2, none⟩ = some (.int .i64 v)) (first | exact ⟨c6', d6'⟩ | exact ⟨c5', d5'⟩ | exact ⟨c4', d4'⟩ | go_keep) (first | (refine step_append_ownK (o := ⟨some 46, _, _, _, _, _⟩) (by rfl) (.tmp 42) (.tmp 45) 97 97 (by rfl) 104 j0 (.agg #[.int .i64 0, Value.int .i64 0]) 2 16 Try.underlying97 hj hy0 hy1 hy2 rfl w3.heap.size _ 0 0 [] (by rfl) (by first | exact emA (Nat.le_refl _) | exact emB _ (Nat.le_refl _) | exact emC _ (Nat.le_refl _)) (.slice D i i) (by rfl) i (flatP (ps.take i)) (by first | exact srcP (slT (HS3.out.alloc _).drew i) HN3.out | exact srcP (slT ((HS3.out.alloc _).alloc _).drew i) HN3.out) (by omega) (by omega) w3 (by first | exact beA _ (Below.refl _ _) (Nat.le_refl _) | exact beB _ (Below.refl _ _) (Nat.le_refl _) _) (by simp; try omega) ?_; intro w4 D4 c4 HO4 HK4 hb4 hsz4; have HO4' := Lib.hid (ze3 HO4.out); have HO4z := Lib.hid (ze4 HO4.out); have hsz4' := hb4.size; have c4' := keepW3 hb4 k1'; have d4' := keepW3 hb4 k2'; (first | (have hX := HK4.out.blk (bkB _ #[.int .i64 k, .int .i64 v]) (by simp)) | (have hX := HK4.out.blk (bkC _ #[.int .i64 k, .int .i64 v]) (by simp)) | skip)) | (refine step_append_ownK (o := ⟨some 53, _, _, _, _, _⟩) (by rfl) (.tmp 46) (.tmp 52) 97 97 (by rfl) 104 j0 (.agg #[.int .i64 0, Value.int .i64 0]) 2 16 Try.underlying97 hj hy0 hy1 hy2 rfl w3.heap.size D4 _ c4 (flatP (ps.take i)) (by rfl) (by first | exact HO4'.out | exact HO4'.out.alloc _ | exact HO4z.out | exact HO4z.out.alloc _) _ (by rfl) 1 [.int .i64 k, .int .i64 v] (by first | exact srcOfSl Try.underlying97 rfl (by omega) hX.sl (fun e => by cases e) (by simp [Value.oneCell']) | exact srcOfSl Try.underlying97 rfl (by omega) (Sl.new rfl rfl) (fun e => by cases e) (by simp [Value.oneCell'])) (by omega) (by omega) w3 (by first | exact hb4 | exact hb4.alloc hsz4' _) (by first | exact hsz4' | (simp; omega)) ?_; intro w5 D5 c5 HO5 HK5 hb5 hsz5; have hsz5' := hb5.size; have c5' := keepW3 hb5 k1'; have d5' := keepW3 hb5 k2') | (refine step_append_ownK (o := ⟨some 55, _, _, _, _, _⟩) (by rfl) (.tmp 53) (.tmp 54) 97 97 (by rfl) 104 j0 (.agg #[.int .i64 0, Value.int .i64 0]) 2 16 Try.underlying97 hj hy0 hy1 hy2 rfl w3.heap.size D5 _ c5 _ (by rfl) (by exact HO5.out) _ (by rfl) 0 (flatP ([] : List (Int × Int))) (HR.out _ hb5) (by omega) (by omega) w3 hb5 hsz5' ?_; intro w6 D6 c6 HO6 HK6 hb6 hsz6; have c6' := keepW3 hb6 k1'; have d6' := keepW3 hb6 k2'; have HO6' := Lib.hid HO6.out))
    all_goals
      have HF5 := Lib.hid (fun n5 hn5 hk => HFin.out D6 c6 w6 n5 hn5 (own_cast HO6'.out hk (by first | rfl | rw [HD0.out])) hb6)
      clear HFin HO4 HO4' HO4z HK4 HK5 HO5 HO6 HO6' HK6 hb4 hb5 hb6 hsz4 hsz5 hsz6 hsz4' hsz5' c4' c5' c6' d4' d5' d6' HR
      go_wp2_with fail
      go_ret2
      exact HF5.out _ (by omega) (by omega)
  · obtain ⟨g, hg⟩ : ∃ g, D = some ⟨g, 0, none⟩ := by
      rcases HO3.out.2.2 with ⟨_, _, h0⟩ | ⟨g, _, h0, _⟩
      · omega
      · exact ⟨g, h0⟩
    subst hg
    have HR : Hid (∀ W : World, Below w3.heap.size w3 W → Src Try.prog 2 97 (.slice (some ⟨g, i * 2, none⟩) (ps.length - i) (c - i)) (ps.length - i) (flatP (ps.drop i)) W) := (show ∀ W : World, _ → _ from fun W hb => srcP (slD (HS3.out.below hb) i) (by rw [List.length_drop]))
    clear HT3 HO3 HB3 H2 HQ3 HAT HF
    go_wp2_with fail
    go_region_held3 (fun w' => w'.cell? ⟨q, 1, none⟩ = some (.int .i64 k) ∧ w'.cell? ⟨q, 2, none⟩ = some (.int .i64 v)) (first | exact ⟨c6', d6'⟩ | exact ⟨c5', d5'⟩ | exact ⟨c4', d4'⟩ | go_keep) (first | (refine step_append_ownK (o := ⟨some 46, _, _, _, _, _⟩) (by rfl) (.tmp 42) (.tmp 45) 97 97 (by rfl) 104 j0 (.agg #[.int .i64 0, Value.int .i64 0]) 2 16 Try.underlying97 hj hy0 hy1 hy2 rfl w3.heap.size _ 0 0 [] (by rfl) (by first | exact emA (Nat.le_refl _) | exact emB _ (Nat.le_refl _) | exact emC _ (Nat.le_refl _)) (.slice (some ⟨g, 0, none⟩) i c) (by rfl) i (flatP (ps.take i)) (by first | exact srcP (slT (HS3.out.alloc _).drew i) HN3.out | exact srcP (slT ((HS3.out.alloc _).alloc _).drew i) HN3.out) (by omega) (by omega) w3 (by first | exact beA _ (Below.refl _ _) (Nat.le_refl _) | exact beB _ (Below.refl _ _) (Nat.le_refl _) _) (by simp; try omega) ?_; intro w4 D4 c4 HO4 HK4 hb4 hsz4; have HO4' := Lib.hid (ze3 HO4.out); have HO4z := Lib.hid (ze4 HO4.out); have hsz4' := hb4.size; have c4' := keepW3 hb4 k1'; have d4' := keepW3 hb4 k2'; (first | (have hX := HK4.out.blk (bkB _ #[.int .i64 k, .int .i64 v]) (by simp)) | (have hX := HK4.out.blk (bkC _ #[.int .i64 k, .int .i64 v]) (by simp)) | skip)) | (refine step_append_ownK (o := ⟨some 53, _, _, _, _, _⟩) (by rfl) (.tmp 46) (.tmp 52) 97 97 (by rfl) 104 j0 (.agg #[.int .i64 0, Value.int .i64 0]) 2 16 Try.underlying97 hj hy0 hy1 hy2 rfl w3.heap.size D4 _ c4 (flatP (ps.take i)) (by rfl) (by first | exact HO4'.out | exact HO4'.out.alloc _ | exact HO4z.out | exact HO4z.out.alloc _) _ (by rfl) 1 [.int .i64 k, .int .i64 v] (by first | exact srcOfSl Try.underlying97 rfl (by omega) hX.sl (fun e => by cases e) (by simp [Value.oneCell']) | exact srcOfSl Try.underlying97 rfl (by omega) (Sl.new rfl rfl) (fun e => by cases e) (by simp [Value.oneCell'])) (by omega) (by omega) w3 (by first | exact hb4 | exact hb4.alloc hsz4' _) (by first | exact hsz4' | (simp; omega)) ?_; intro w5 D5 c5 HO5 HK5 hb5 hsz5; have hsz5' := hb5.size; have c5' := keepW3 hb5 k1'; have d5' := keepW3 hb5 k2') | (refine step_append_ownK (o := ⟨some 55, _, _, _, _, _⟩) (by rfl) (.tmp 53) (.tmp 54) 97 97 (by rfl) 104 j0 (.agg #[.int .i64 0, Value.int .i64 0]) 2 16 Try.underlying97 hj hy0 hy1 hy2 rfl w3.heap.size D5 _ c5 _ (by rfl) (by exact HO5.out) _ (by rfl) (ps.length - i) (flatP (ps.drop i)) (HR.out _ hb5) (by omega) (by omega) w3 hb5 hsz5' ?_; intro w6 D6 c6 HO6 HK6 hb6 hsz6; have c6' := keepW3 hb6 k1'; have d6' := keepW3 hb6 k2'; have HO6' := Lib.hid HO6.out))
    all_goals
      have HF5 := Lib.hid (fun n5 hn5 hk => HFin.out D6 c6 w6 n5 hn5 (own_cast HO6'.out hk (by first | rfl | rw [HD0.out])) hb6)
      clear HFin HO4 HO4' HO4z HK4 HK5 HO5 HO6 HO6' HK6 hb4 hb5 hb6 hsz4 hsz5 hsz6 hsz4' hsz5' c4' c5' c6' d4' d5' d6' HR
      go_wp2_with fail
      go_ret2
      exact HF5.out _ (by omega) (by omega)
end Go.Proofs.Ytepmnhlfjidhjaa
