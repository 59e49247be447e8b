/-
  Del on the yard's table of files, by a file's name.
-/
import Derived.Test.YtbmgeomndfodpaaYardCut
namespace Go.Proofs.Ytbmgeomndfodpaa
open Go.RowKit Go.Mem Go.Proofs

theorem del_get {α : Type} (l : List α) (i j : Nat) : (l.eraseIdx i)[j]? = if j < i then l[j]? else l[j + 1]? := List.getElem?_eraseIdx
theorem map_erase {α β : Type} (f : α → β) (l : List α) (i : Nat) : (l.eraseIdx i).map f = (l.map f).eraseIdx i := by
  refine List.ext_getElem? (fun j => ?_)
  rw [List.getElem?_map, List.getElem?_eraseIdx, List.getElem?_eraseIdx]
  split <;> rw [List.getElem?_map]
theorem Bytes.del {w : World} {B : Nat} {m : List MF} {vs : List Fl} (h : Bytes w B m vs) (i : Nat) : Bytes w B (m.eraseIdx i) (vs.eraseIdx i) := by
  refine ⟨fun j f x h1 h2 => ?_, fun j1 j2 f g hne h1 h2 b hb => ?_⟩
  · rw [del_get] at h1 h2
    split at h1
    · next hj => rw [if_pos hj] at h2; exact h.own j f x h1 h2
    · next hj => rw [if_neg hj] at h2; exact h.own (j + 1) f x h1 h2
  · rw [del_get] at h1 h2
    split at h1
    · split at h2
      · exact h.ap j1 j2 f g hne h1 h2 b hb
      · exact h.ap j1 (j2 + 1) f g (by omega) h1 h2 b hb
    · split at h2
      · exact h.ap (j1 + 1) j2 f g (by omega) h1 h2 b hb
      · exact h.ap (j1 + 1) (j2 + 1) f g (by omega) h1 h2 b hb
theorem Yd.del_calls {w : World} {B y : Nat} {m : List MF} {tk : List (Int × Int)} {pF pT : Nat} {DK DV DK2 DV2 : Option Addr} {vs : List Fl} (h : Yd w B y m tk pF pT DK DV DK2 DV2 vs) (hg : Gd m) (t : ByteArray) (hBw : B ≤ w.heap.size) :
    Calls Try.prog 55 #[.pointer (some ⟨pF, 0, none⟩), .int .i64 (nameNo t m)] w fun e w' => e = .returned (.bool (findM t m).isSome) ∧ ∃ DK' DV' vs', Yd w' B y (removeM t m) tk pF pT DK' DV' DK2 DV2 vs' ∧ Fp w w' (FootY pF pT y DK DV DK2 DV2 vs) (FootY pF pT y DK' DV' DK2 DV2 vs') ∧ Below B w w' := by
  have hlen := hg.len
  unfold removeM
  cases hf : findM t m with
  | none =>
    rw [(findM_none hf).1]
    obtain ⟨i, hat⟩ := Tab.At.ex ordI (m.map MF.ino) h.rf 0
    have hno : (m.map MF.ino)[i]? ≠ some 0 := fun e => by
      obtain ⟨z, hz, h0⟩ := List.mem_map.1 (List.mem_of_getElem? e)
      have := (hg.ino z hz).1
      omega
    refine (delIF_no B pF DK DV (m.map MF.ino) vs 0 i w h.f h.rf hat (by rw [List.length_map]; omega) hno).mono ?_
    rintro e w' ⟨rfl, q, rfl⟩
    have hb := below_drewN (Below.refl w.heap.size w) q
    exact ⟨rfl, DK, DV, vs, h.below hb, Fp.of_below hb _, hb.mono hBw⟩
  | some i =>
    obtain ⟨x, hx, hxn, hno⟩ := findM_some hf
    rw [hno]
    have hk : (m.map MF.ino)[i]? = some x.ino := by rw [List.getElem?_map, hx]; rfl
    refine (delIF_yes B pF DK DV (m.map MF.ino) vs x.ino i w h.f h.rf (Tab.At.of_get ordI h.rf hk) (by rw [List.length_map]; omega) hk hBw).mono ?_
    intro e w' he
    have hev := he.val
    rw [← List.eraseIdx_eq_take_drop_succ, ← List.eraseIdx_eq_take_drop_succ, ← map_erase] at he
    obtain ⟨_, DK', DV', r⟩ := Yd.turned (vs0 := vs) h.b h.yB h.f h.t h.rt h.kk he (hg.del i).r (h.bytes.del i) (fun f hf g hg _ => ⟨f, List.mem_of_mem_eraseIdx hf, hg⟩)
    exact ⟨hev, DK', DV', _, r⟩
/-- Remove -/
theorem removeNo_eq (s : ByteArray) (m : List MF) : removeNo s m = if (findM s m).isSome then 0 else 7 := by
  unfold removeNo; cases findM s m <;> rfl
set_option maxRecDepth 100000 in
set_option maxHeartbeats 1600000 in
theorem remove_calls {w : World} {B y : Nat} {m : List MF} {tk : List (Int × Int)} {S : Nat → Prop} (h : YS w B y m tk S) (hg : Gd m) (s : ByteArray) (hBw : B ≤ w.heap.size) :
    Calls Try.prog 29 #[.pointer (some ⟨y, 0, none⟩), .string s] w (YEnds w B y (.int .i64 (removeNo s m)) (removeM s m) tk S) := by
  obtain ⟨pF, pT, DK, DV, DK2, DV2, vs, h, rfl⟩ := h
  have hlen := hg.len
  have hm : m.length ≤ 1000000 := by omega
  rw [removeNo_eq]
  have c0 : w.cell? ⟨y, 0, none⟩ = some (.pointer (some ⟨pF, 0, none⟩)) := h.b.cell 0
  have c0' : (w.drewN 1).cell? ⟨y, 0, none⟩ = some (.pointer (some ⟨pF, 0, none⟩)) := h.b.cell 0
  have HN : Hid (Calls Try.prog 50 #[.pointer (some ⟨y, 0, none⟩), .string s] (w.drewN 1) fun e w1 => e = .returned (.int .i64 (nameNo s m)) ∧ w1.cell? ⟨y, 0, none⟩ = some (.pointer (some ⟨pF, 0, none⟩)) ∧ Hid (Calls Try.prog 55 #[.pointer (some ⟨pF, 0, none⟩), .int .i64 (nameNo s m)] w1 fun e w2 => e = .returned (.bool (findM s m).isSome) ∧ Hid (∀ v, YEnds w B y v (removeM s m) tk (FootY pF pT y DK DV DK2 DV2 vs) (.returned v) w2))) := (show Calls _ _ _ _ _ from by
    have hb0 := below_drewN (Below.refl w.heap.size w) 1
    refine ((h.below hb0).named_calls hm s).mono ?_
    rintro e w1 ⟨rfl, h1, b1⟩
    have hb1 := hb0.trans (b1.mono (Nat.le_refl _))
    refine ⟨rfl, h1.b.cell 0, (show Calls _ _ _ _ _ from ?_)⟩
    refine (h1.del_calls hg s (Nat.le_trans hBw hb1.size)).mono ?_
    rintro e w2 ⟨rfl, DK', DV', vs', hyd, hfp, hbb⟩
    exact ⟨rfl, (show ∀ v, YEnds _ _ _ _ _ _ _ _ _ from fun v => ⟨rfl, _, ⟨_, _, _, _, _, _, _, hyd, rfl⟩, (Fp.of_below hb1 _).trans hfp, (hb1.mono hBw).trans hbb⟩)⟩)
  clear h hg
  generalize nameNo s m = no at *
  generalize removeM s m = m' at *
  generalize (findM s m).isSome = b at *
  obtain ⟨r, hr⟩ : ∃ r : Int, r = if b = true then 0 else 7 := ⟨_, rfl⟩
  rw [← hr]
  have HR := Lib.hid hr
  clear hr
  go_enter Try.func29, Try.ntmps29
  go_upto_region 1 with fail
  go_region_with (first | (go_at_call 50; refine HN.out.mono ?_; rintro e w1 ⟨rfl, c1, HD⟩) | (go_at_call 55; refine HD.out.mono ?_; rintro e w2 ⟨rfl, HFin⟩))
  all_goals
    cases b
    all_goals
      obtain rfl := HR.out
      clear HR
      go_wp2_with fail
      go_ret
      exact HFin.out _
end Go.Proofs.Ytbmgeomndfodpaa
