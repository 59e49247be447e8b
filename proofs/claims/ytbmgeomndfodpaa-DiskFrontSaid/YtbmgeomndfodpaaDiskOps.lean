/-
  The contracts of disk's Cut, Rename and Remove.
-/
import Derived.Test.YtbmgeomndfodpaaDiskBack
namespace Go.Proofs.Ytbmgeomndfodpaa
open Go.RowKit Go.Mem Go.Proofs

theorem setF_len_mem {k : ByteArray} {v v' : List UInt8} {l : FS} (hr : Tab.Rising ltS (l.map Prod.fst)) (h : getF k l = some v) : (setF k v' l).length = l.length := by
  induction l with
  | nil => simp [getF] at h
  | cons x l ih =>
    obtain ⟨h1, h2⟩ := Rising.tail hr
    unfold getF at h
    unfold setF
    by_cases he : x.1 = k
    · rw [if_neg (by rw [he, ordS.irr]; decide), if_pos he]; simp
    · rw [if_neg he] at h
      have hlt : ltS x.1 k = true := (List.pairwise_cons.1 hr).1 k (List.mem_map.2 ⟨_, getF_mem h, rfl⟩)
      rw [if_pos hlt, List.length_cons, List.length_cons, ih h1 h]
theorem delF_len_mem {k : ByteArray} {v : List UInt8} {l : FS} (h : getF k l = some v) : (delF k l).length + 1 = l.length := by
  induction l with
  | nil => simp [getF] at h
  | cons x l ih =>
    unfold getF at h
    unfold delF
    by_cases he : x.1 = k
    · rw [if_pos he]; simp
    · rw [if_neg he] at h
      rw [if_neg he, List.length_cons, List.length_cons, ih h]
theorem bytesF_some {k : ByteArray} {v : List UInt8} {F : FS} (h : getF k F = some v) : bytesF k F = v := by unfold bytesF; rw [h]; rfl
theorem bytesF_le (k : ByteArray) (F : FS) : (bytesF k F).length ≤ totF F := by
  unfold bytesF
  cases h : getF k F with
  | none => simp
  | some v => exact getF_len h
/-- the raw writes -/
def cutX (k : ByteArray) (n : Nat) : MW := ⟨3, k, ⟨#[]⟩, n, []⟩
def renX (k t : ByteArray) : MW := ⟨2, k, t, 0, []⟩
def remX (k : ByteArray) : MW := ⟨4, k, ⟨#[]⟩, 0, []⟩
theorem remX_ok (k : ByteArray) (F : FS) : (remX k).ok F := ⟨by show 4 ≤ 4; decide, fun e => absurd e (by show ¬ ((4 : Nat) = 1); decide), fun e => absurd e (by show ¬ ((4 : Nat) = 3); decide)⟩
theorem renX_ok (k t : ByteArray) (F : FS) : (renX k t).ok F := ⟨by show 2 ≤ 4; decide, fun e => absurd e (by show ¬ ((2 : Nat) = 1); decide), fun e => absurd e (by show ¬ ((2 : Nat) = 3); decide)⟩
theorem cutX_ok (k : ByteArray) (n : Nat) (F : FS) (h : n ≤ (bytesF k F).length) : (cutX k n).ok F := ⟨by show 3 ≤ 4; decide, fun e => absurd e (by show ¬ ((3 : Nat) = 1); decide), fun _ => h⟩
def dcutNo (k : ByteArray) (n : Int) (F : FS) : Int := if (getF k F).isSome = true then (if n < 0 ∨ ((bytesF k F).length : Int) < n then 1 else 0) else 7
def dcutW (k : ByteArray) (n : Int) (F : FS) : List MW := if dcutNo k n F = 0 then [cutX k n.toNat] else []
def drenNo (k t : ByteArray) (F : FS) : Int := if rightD t = true then (if (getF k F).isSome = true then 0 else 7) else 14
def drenW (k t : ByteArray) (F : FS) : List MW := if drenNo k t F = 0 then [renX k t] else []
def dremNo (k : ByteArray) (F : FS) : Int := if (getF k F).isSome = true then 0 else 7
def dremW (k : ByteArray) (F : FS) : List MW := if dremNo k F = 0 then [remX k] else []
section
variable {w w' : World} {B d K N : Nat} {M : FS} {W : List MW} {S : Nat → Prop}
theorem DV.get (h : DV K N w B d M W S) (hK : K ≤ 90000) (k : ByteArray) : ∃ (sd : Option Addr) (sn sc pF : Nat), w.cell? ⟨d, 0, none⟩ = some (.pointer (some ⟨pF, 0, none⟩)) ∧ sn = (bytesF k (replay M W)).length ∧
    Calls Try.prog 69 #[.pointer (some ⟨pF, 0, none⟩), .string k] w fun e w' => e = .returned (.tuple #[.slice sd sn sc, .bool (getF k (replay M W)).isSome]) ∧ ∃ q, w' = w.drewN q := by
  obtain ⟨⟨l, pF, pM, KF, VF, KM, VM, WD, cW, vF, vM, he, dd, rfl⟩, hg, hB⟩ := h
  have hF := hg.now
  obtain ⟨s, b', hgt⟩ := gets_ex dd.f.len k
  obtain rfl := gets_b dd.f.r hgt
  exact ⟨s.d, s.n, s.c, pF, dd.b.cell 0, (dd.f.gview hgt).1, dd.f.get hgt (by omega)⟩
theorem DV.same (h : DV K N w B d M W S) (v : Value) (q : Nat) : DE K (N + 1) w B d v M W S (.returned v) (w.drewN q) :=
  ⟨rfl, S, (h.drewN q).mono (Nat.le_refl _) (by omega), Fp.of_below (below_drewN (Below.refl _ _) q) _, below_drewN (Below.refl _ _) q⟩
theorem DV.rise (h : DV K N w B d M W S) : Tab.Rising ltS ((replay M W).map Prod.fst) := replay_rise h.g.r W
set_option maxRecDepth 100000 in
set_option maxHeartbeats 1600000 in
theorem dremove_calls (h : DV K N w B d M W S) (k : ByteArray) (hK : K ≤ 90000) (hN : N ≤ 100000000000) : Calls Try.prog 43 #[.pointer (some ⟨d, 0, none⟩), .string k] w (DE K (N + 1) w B d (.int .i64 (dremNo k (replay M W))) M (W ++ dremW k (replay M W)) S) := by
  obtain ⟨sd, sn, sc, pF, c0, hsn, hG⟩ := h.get hK k
  have HG := Lib.hid hG
  have HH := Lib.hid h
  have hr := h.rise
  have hnow := h.g.now
  cases hgf : getF k (replay M W) with
  | none =>
    have e1 : dremNo k (replay M W) = 7 := by unfold dremNo; rw [hgf]; rfl
    have e2 : dremW k (replay M W) = [] := by unfold dremW; rw [e1]; rfl
    rw [e1, e2, List.append_nil]
    rw [hgf] at HG
    clear hG h hsn hr hnow hgf e1 e2
    go_enter Try.func43, Try.ntmps43
    go_wp2_with fail
    refine HG.out.mono ?_
    rintro e w1 ⟨rfl, q, rfl⟩
    go_wp2_with fail
    go_ret
    exact HH.out.same _ q
  | some v =>
    have e1 : dremNo k (replay M W) = 0 := by unfold dremNo; rw [hgf]; rfl
    have e2 : dremW k (replay M W) = [remX k] := by unfold dremW; rw [e1]; rfl
    rw [e1, e2]
    rw [hgf] at HG
    have HD : Hid (∀ q, Calls Try.prog 70 #[.pointer (some ⟨d, 0, none⟩), .agg #[.int .i64 4, .string k, .string ⟨#[]⟩, .int .i64 0, .slice none 0 0]] (w.drewN q) fun e w' => e = .returned (.tuple #[]) ∧ Hid (DE K (N + 1) w B d (.int .i64 0) M (W ++ [remX k]) S (.returned (.int .i64 0)) w')) := (show ∀ q, _ from fun q => by
      have happ : (remX k).app (replay M W) = delF k (replay M W) := rfl
      have ht := totF_del k (replay M W)
      have hl := delF_len k (replay M W)
      refine ((h.drewN q).do_ (remX k) (remX_ok k _) rfl (by rw [happ]; omega) (by rw [happ]; omega) hK hN).mono ?_
      rintro e w' ⟨rfl, S', r1, r2, r3⟩
      exact ⟨rfl, (show DE _ _ _ _ _ _ _ _ _ _ _ from ⟨rfl, S', r1, (Fp.of_below (below_drewN (Below.refl _ _) q) _).trans r2, (below_drewN (Below.refl _ _) q).trans r3⟩)⟩)
    clear hG h hsn hr hnow hgf e1 e2
    go_enter Try.func43, Try.ntmps43
    go_wp2_with fail
    refine HG.out.mono ?_
    rintro e w1 ⟨rfl, q, rfl⟩
    go_wp2_with fail
    refine (HD.out q).mono ?_
    rintro e w2 ⟨rfl, HF⟩
    go_wp2_with fail
    go_ret
    exact HF.out
set_option maxRecDepth 100000 in
set_option maxHeartbeats 1600000 in
theorem dcut_calls (h : DV K N w B d M W S) (k : ByteArray) (n : Int) (hK : K ≤ 90000) (hN : N ≤ 100000000000) : Calls Try.prog 42 #[.pointer (some ⟨d, 0, none⟩), .string k, .int .i64 n] w (DE K (N + 1) w B d (.int .i64 (dcutNo k n (replay M W))) M (W ++ dcutW k n (replay M W)) S) := by
  obtain ⟨sd, sn, sc, pF, c0, hsn, hG⟩ := h.get hK k
  have HG := Lib.hid hG
  have HH := Lib.hid h
  have hr := h.rise
  have hnow := h.g.now
  cases hgf : getF k (replay M W) with
  | none =>
    have e1 : dcutNo k n (replay M W) = 7 := by unfold dcutNo; rw [hgf]; rfl
    have e2 : dcutW k n (replay M W) = [] := by unfold dcutW; rw [e1]; rfl
    rw [e1, e2, List.append_nil]
    rw [hgf] at HG
    clear hG h hsn hr hnow hgf e1 e2
    go_enter Try.func42, Try.ntmps42
    go_wp2_with fail
    refine HG.out.mono ?_
    rintro e w1 ⟨rfl, q, rfl⟩
    go_wp2_with fail
    go_ret
    exact HH.out.same _ q
  | some v =>
    by_cases hbad : n < 0 ∨ ((bytesF k (replay M W)).length : Int) < n
    · have e1 : dcutNo k n (replay M W) = 1 := by unfold dcutNo; rw [hgf, if_pos hbad]; rfl
      have e2 : dcutW k n (replay M W) = [] := by unfold dcutW; rw [e1]; rfl
      rw [e1, e2, List.append_nil]
      rw [hgf] at HG
      rw [← hsn] at hbad
      by_cases hn0 : n < 0
      · clear hG h hsn hr hnow hgf e1 e2 hbad
        go_enter Try.func42, Try.ntmps42
        go_wp2_with fail
        refine HG.out.mono ?_
        rintro e w1 ⟨rfl, q, rfl⟩
        go_wp2_with fail
        go_ret
        exact HH.out.same _ q
      · have hn1 : (sn : Int) < n := by omega
        clear hG h hsn hr hnow hgf e1 e2 hbad
        go_enter Try.func42, Try.ntmps42
        go_wp2_with fail
        refine HG.out.mono ?_
        rintro e w1 ⟨rfl, q, rfl⟩
        go_wp2_with fail
        go_ret
        exact HH.out.same _ q
    · obtain ⟨m, rfl⟩ : ∃ m : Nat, n = m := ⟨n.toNat, by omega⟩
      have e1 : dcutNo k m (replay M W) = 0 := by unfold dcutNo; rw [hgf, if_neg hbad]; rfl
      have e2 : dcutW k m (replay M W) = [cutX k m] := by unfold dcutW; rw [e1]; rfl
      rw [e1, e2]
      rw [hgf] at HG
      have hml : m ≤ (bytesF k (replay M W)).length := by omega
      have hn0 : ¬ ((m : Int) < 0) := by omega
      have hn1 : ¬ ((sn : Int) < (m : Int)) := by omega
      have HD : Hid (∀ q, Calls Try.prog 70 #[.pointer (some ⟨d, 0, none⟩), .agg #[.int .i64 3, .string k, .string ⟨#[]⟩, .int .i64 (m : Int), .slice none 0 0]] (w.drewN q) fun e w' => e = .returned (.tuple #[]) ∧ Hid (DE K (N + 1) w B d (.int .i64 0) M (W ++ [cutX k m]) S (.returned (.int .i64 0)) w')) := (show ∀ q, _ from fun q => by
        have happ : (cutX k m).app (replay M W) = setF k ((bytesF k (replay M W)).take m) (replay M W) := rfl
        have ht := totF_set k ((bytesF k (replay M W)).take m) (replay M W) hr
        have hl := setF_len_mem (v' := (bytesF k (replay M W)).take m) hr hgf
        have hbl : ((getF k (replay M W)).getD []).length = (bytesF k (replay M W)).length := rfl
        rw [hbl, List.length_take] at ht
        refine ((h.drewN q).do_ (cutX k m) (cutX_ok k m _ hml) rfl (by rw [happ]; omega) (by rw [happ]; omega) hK hN).mono ?_
        rintro e w' ⟨rfl, S', r1, r2, r3⟩
        exact ⟨rfl, (show DE _ _ _ _ _ _ _ _ _ _ _ from ⟨rfl, S', r1, (Fp.of_below (below_drewN (Below.refl _ _) q) _).trans r2, (below_drewN (Below.refl _ _) q).trans r3⟩)⟩)
      clear hG h hsn hr hnow hgf e1 e2 hbad hml
      go_enter Try.func42, Try.ntmps42
      go_wp2_with fail
      refine HG.out.mono ?_
      rintro e w1 ⟨rfl, q, rfl⟩
      go_wp2_with fail
      refine (HD.out q).mono ?_
      rintro e w2 ⟨rfl, HF⟩
      go_wp2_with fail
      go_ret
      exact HF.out
set_option maxRecDepth 100000 in
set_option maxHeartbeats 1600000 in
theorem drename_calls (h : DV K N w B d M W S) (k t : ByteArray) (hts : t.size ≤ 9223372036854775807) (hK : K ≤ 90000) (hN : N ≤ 100000000000) : Calls Try.prog 36 #[.pointer (some ⟨d, 0, none⟩), .string k, .string t] w (DE K (N + 1) w B d (.int .i64 (drenNo k t (replay M W))) M (W ++ drenW k t (replay M W)) S) := by
  have HH := Lib.hid h
  have HR := Lib.hid (dright_calls t w hts)
  cases hrt : rightD t with
  | false =>
    have e1 : drenNo k t (replay M W) = 14 := by unfold drenNo; rw [hrt]; rfl
    have e2 : drenW k t (replay M W) = [] := by unfold drenW; rw [e1]; rfl
    rw [e1, e2, List.append_nil]
    rw [hrt] at HR
    clear h e1 e2 hrt
    go_enter Try.func36, Try.ntmps36
    go_wp2_with fail
    refine HR.out.mono ?_
    rintro e w1 ⟨rfl, q, rfl⟩
    go_wp2_with fail
    go_ret
    exact HH.out.same _ q
  | true =>
    rw [hrt] at HR
    have HGQ : Hid (∀ q, ∃ (sd : Option Addr) (sn sc pF : Nat), (w.drewN q).cell? ⟨d, 0, none⟩ = some (.pointer (some ⟨pF, 0, none⟩)) ∧ sn = (bytesF k (replay M W)).length ∧ Calls Try.prog 69 #[.pointer (some ⟨pF, 0, none⟩), .string k] (w.drewN q) fun e w' => e = .returned (.tuple #[.slice sd sn sc, .bool (getF k (replay M W)).isSome]) ∧ ∃ q', w' = (w.drewN q).drewN q') := (show ∀ q, _ from fun q => (h.drewN q).get hK k)
    have hr := h.rise
    have hnow := h.g.now
    cases hgf : getF k (replay M W) with
    | none =>
      have e1 : drenNo k t (replay M W) = 7 := by unfold drenNo; rw [hrt, hgf]; rfl
      have e2 : drenW k t (replay M W) = [] := by unfold drenW; rw [e1]; rfl
      rw [e1, e2, List.append_nil]
      rw [hgf] at HGQ
      clear h hr hnow hgf e1 e2 hrt
      go_enter Try.func36, Try.ntmps36
      go_wp2_with fail
      refine HR.out.mono ?_
      rintro e w1 ⟨rfl, q, rfl⟩
      obtain ⟨sd, sn, sc, pF, c0, hsn, hG⟩ := HGQ.out q
      have HG := Lib.hid hG
      clear hG hsn
      go_wp2_with fail
      refine HG.out.mono ?_
      rintro e w2 ⟨rfl, q2, hw2⟩
      rw [World.drewN_drewN] at hw2
      subst hw2
      go_wp2_with fail
      go_ret
      exact HH.out.same _ _
    | some v =>
      have e1 : drenNo k t (replay M W) = 0 := by unfold drenNo; rw [hrt, hgf]; rfl
      have e2 : drenW k t (replay M W) = [renX k t] := by unfold drenW; rw [e1]; rfl
      rw [e1, e2]
      rw [hgf] at HGQ
      have HD : Hid (∀ q, Calls Try.prog 70 #[.pointer (some ⟨d, 0, none⟩), .agg #[.int .i64 2, .string k, .string t, .int .i64 0, .slice none 0 0]] (w.drewN q) fun e w' => e = .returned (.tuple #[]) ∧ Hid (DE K (N + 1) w B d (.int .i64 0) M (W ++ [renX k t]) S (.returned (.int .i64 0)) w')) := (show ∀ q, _ from fun q => by
        have happ : (renX k t).app (replay M W) = setF t (bytesF k (replay M W)) (delF k (replay M W)) := rfl
        have ht := totF_set t (bytesF k (replay M W)) (delF k (replay M W)) (rise_del hr)
        have ht2 := totF_del k (replay M W)
        have hl := setF_len t (bytesF k (replay M W)) (delF k (replay M W))
        have hl2 := delF_len_mem hgf
        have hbl : ((getF k (replay M W)).getD []).length = (bytesF k (replay M W)).length := rfl
        rw [hbl] at ht2
        refine ((h.drewN q).do_ (renX k t) (renX_ok k t _) rfl (by rw [happ]; omega) (by rw [happ]; omega) hK hN).mono ?_
        rintro e w' ⟨rfl, S', r1, r2, r3⟩
        exact ⟨rfl, (show DE _ _ _ _ _ _ _ _ _ _ _ from ⟨rfl, S', r1, (Fp.of_below (below_drewN (Below.refl _ _) q) _).trans r2, (below_drewN (Below.refl _ _) q).trans r3⟩)⟩)
      clear h hr hnow hgf e1 e2 hrt
      go_enter Try.func36, Try.ntmps36
      go_wp2_with fail
      refine HR.out.mono ?_
      rintro e w1 ⟨rfl, q, rfl⟩
      obtain ⟨sd, sn, sc, pF, c0, hsn, hG⟩ := HGQ.out q
      have HG := Lib.hid hG
      clear hG hsn
      go_wp2_with fail
      refine HG.out.mono ?_
      rintro e w2 ⟨rfl, q2, hw2⟩
      rw [World.drewN_drewN] at hw2
      subst hw2
      go_wp2_with fail
      refine (HD.out _).mono ?_
      rintro e w3 ⟨rfl, HF⟩
      go_wp2_with fail
      go_ret
      exact HF.out
end
end Go.Proofs.Ytbmgeomndfodpaa
