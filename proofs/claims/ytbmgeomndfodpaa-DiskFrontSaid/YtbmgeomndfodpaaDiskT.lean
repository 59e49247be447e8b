/-
  The contracts of disk's Total, Read, Mark and New.
-/
import Derived.Test.YtbmgeomndfodpaaDiskV
import Derived.Test.YtbmgeomndfodpaaCloneB1
namespace Go.Proofs.Ytbmgeomndfodpaa
open Go.RowKit Go.Mem Go.Proofs

theorem totF_take {F : FS} {k : Nat} {x : ByteArray × List UInt8} (h : F[k]? = some x) : totF (F.take (k + 1)) = totF (F.take k) + x.2.length := by
  induction F generalizing k with
  | nil => simp at h
  | cons y F ih =>
    cases k with
    | zero => simp at h; subst h; simp [totF]
    | succ k =>
      have := ih (k := k) (by simpa using h)
      simp only [List.take_succ_cons, totF]; omega
theorem totF_take_le (F : FS) (k : Nat) : totF (F.take k) ≤ totF F := by
  induction F generalizing k with
  | nil => simp [totF]
  | cons y F ih =>
    cases k with
    | zero => simp [totF]
    | succ k => have := ih k; simp only [List.take_succ_cons, totF]; omega
section
variable {w w' : World} {B d K N : Nat} {M : FS} {W : List MW} {S : Nat → Prop}
set_option maxRecDepth 100000 in
set_option maxHeartbeats 1600000 in
theorem total_calls (h : DV K N w B d M W S) (hK : K ≤ 90000) : Calls Try.prog 46 #[.pointer (some ⟨d, 0, none⟩)] w fun e w' => e = .returned (.int .i64 (totF (replay M W) : Int)) ∧ ∃ q, w' = w.drewN q := by
  obtain ⟨⟨l, pF, pM, KF, VF, KM, VM, WD, cW, vF, vM, he, dd, rfl⟩, hg, hB⟩ := h
  have hF := hg.now
  have c0 := dd.b.cell 0
  simp only [List.getElem?_cons_zero] at c0
  have HL := Lib.hid (lenSL_calls B pF KF VF _ vF w dd.f.tb)
  rw [List.length_map] at HL
  have HAt : Hid (∀ (k : Nat) (x : ByteArray × List UInt8) (q : Nat), (replay M W)[k]? = some x → ∃ s : Sb, s.n = x.2.length ∧ Calls Try.prog 84 #[.pointer (some ⟨pF, 0, none⟩), .int .i64 (k : Int)] (w.drewN q) fun e w' => e = .returned (.tuple #[.string x.1, .slice s.d s.n s.c, .bool true]) ∧ ∃ q', w' = w.drewN q') := (show ∀ (k : Nat) (x : ByteArray × List UInt8) (q : Nat), _ from fun k x q hx => by
    obtain ⟨s, hs⟩ := dd.f.sb hx
    have f2 := dd.f.below (below_drewN (Below.refl _ _) q)
    refine ⟨s, (dd.f.vw k s x hs hx).1, (atSL_in B pF KF VF _ vF k x.1 s (w.drewN q) f2.tb (by rw [List.getElem?_map, hx]; rfl) hs).mono ?_⟩
    rintro e w' ⟨rfl, q', rfl⟩
    exact ⟨rfl, q + q', by rw [World.drewN_drewN]⟩)
  have HF := Lib.hid hF
  clear dd hg hB he
  generalize replay M W = F at *
  have hn : F.length ≤ 90000 := by omega
  obtain ⟨n, hnl⟩ : ∃ n, n = F.length := ⟨_, rfl⟩
  have HN := Lib.hid hnl
  rw [← hnl] at HL hn
  clear hF hnl
  go_enter Try.func46, Try.ntmps46
  go_wp2_with fail
  refine HL.out.mono ?_
  rintro e w1 ⟨rfl, rfl⟩
  go_wp2_with fail
  go_loopw [3, 13] (fun t i wr => ∃ (k : Nat), k ≤ n ∧ i = .int .i64 k ∧ (∃ m : Nat, t = .int .i64 m ∧ Hid (m = totF (F.take k))) ∧ ∃ q, wr = w1.drewN q) (fun _ i _ => n - (intOf i).toNat)
  case atStart => exact ⟨0, Nat.zero_le _, rfl, ⟨0, rfl, (show _ = _ from rfl)⟩, 0, rfl⟩
  case round =>
    obtain ⟨k, hk, rfl, ⟨m, rfl, HM⟩, q, rfl⟩ := hrel
    by_cases hlt : k < n
    · have i0 : (0 : Int) ≤ (k : Int) := by omega
      have i1 : (k : Int) < (n : Int) := by omega
      have hkl : k < F.length := by rw [← HN.out]; exact hlt
      have hx : F[k]? = some F[k] := List.getElem?_eq_getElem hkl
      have hw1 : IntKind.i64.wrap ((k : Int) + 1) = (k : Int) + 1 := by rw [IntKind.wrap_i64]; omega
      have hm1 := totF_take hx
      have hm2 := totF_take_le F (k + 1)
      have hm3 := HF.out.1
      have hm4 := HM.out
      have hw2 : IntKind.i64.wrap ((m : Int) + ((F[k]).2.length : Int)) = (m : Int) + ((F[k]).2.length : Int) := by rw [IntKind.wrap_i64]; omega
      obtain ⟨s, hs, hA⟩ := HAt.out k _ q hx
      obtain ⟨sd, sn, sc⟩ := s
      simp only at hs hA
      rw [← hs] at hw2 hm1
      have HA := Lib.hid hA
      have HS := Lib.hid (show m + sn = totF (F.take (k + 1)) by omega)
      clear hA hm1 hm2 hm3 hm4 hs hx
      generalize F[k] = x at *
      go_wp2_with fail
      refine HA.out.mono ?_
      rintro e w2 ⟨rfl, q2, rfl⟩
      go_wp2_with fail
      exact ⟨⟨k + 1, hlt, rfl, ⟨m + sn, by simp, HS⟩, q2, rfl⟩, by simp [intOf]; omega⟩
    · have i1 : ¬ ((k : Int) < (n : Int)) := by omega
      have e1 : m = totF F := by rw [HM.out, show k = F.length by rw [← HN.out]; omega, List.take_length]
      go_wp2_with fail
      go_ret
      exact ⟨by first | rfl | rw [e1], q, rfl⟩
/-- bytes of the call's own, and nothing below has turned -/
def RdE (w : World) (bs : List UInt8) (n : Nat) (b : Bool) (e : Ending) (w' : World) : Prop := ∃ (D : Option Addr) (c : Nat), e = .returned (.tuple #[.slice D n c, .bool b]) ∧ OwnB w' w.heap.size 5 1 D n c (bs.map B8) ∧ Below w.heap.size w w'
theorem gets_b {F : FS} {vs : List Sb} {k : ByteArray} {s : Sb} {b : Bool} (hr : Tab.Rising ltS (F.map Prod.fst)) (hg : Gets F vs k s b) : b = (getF k F).isSome := by
  rcases hg with ⟨rfl, i, bs, hx, hs⟩ | ⟨rfl, rfl, hk⟩
  · rw [getF_get hr hx]; rfl
  · rw [getF_none hk]; rfl
set_option maxRecDepth 100000 in
set_option maxHeartbeats 1600000 in
theorem read_calls (h : DV K N w B d M W S) (hK : K ≤ 90000) (k : ByteArray) {bs : List UInt8} {n : Nat} {b : Bool} (h1 : bytesF k (replay M W) = bs) (h2 : bs.length = n) (h3 : (getF k (replay M W)).isSome = b) : Calls Try.prog 38 #[.pointer (some ⟨d, 0, none⟩), .string k] w (RdE w bs n b) := by
  obtain ⟨⟨l, pF, pM, KF, VF, KM, VM, WD, cW, vF, vM, he, dd, rfl⟩, hg, hB⟩ := h
  have hF := hg.now
  obtain ⟨s, b', hgt⟩ := gets_ex dd.f.len k
  obtain rfl : b' = b := by rw [gets_b dd.f.r hgt, h3]
  obtain ⟨v1, v2, v3⟩ := dd.f.gview hgt
  rw [h1] at v1 v3
  have hbl : bs.length ≤ 16777216 := by
    rw [← h1]; unfold bytesF
    cases hgf : getF k (replay M W) with
    | none => simp
    | some v => have := getF_len hgf; simp; omega
  have c0 := dd.b.cell 0
  simp only [List.getElem?_cons_zero] at c0
  have HG := Lib.hid (dd.f.get hgt (by omega))
  obtain ⟨sd, sn, sc⟩ := s
  simp only at v1 v2 v3 HG
  obtain rfl : sn = n := by omega
  have HC := Lib.hid (fun q => cloneB_calls sd sn sc bs (w.drewN q) v3.sl h2 (by omega))
  unfold BytesEnd at HC
  rw [h2] at HC
  clear dd hg hB he hF v1 v2 v3 hgt h1 h2 h3 hbl
  unfold RdE
  go_enter Try.func38, Try.ntmps38
  go_wp2_with fail
  refine HG.out.mono ?_
  rintro e w1 ⟨rfl, q, rfl⟩
  have HC1 := Lib.hid (HC.out q)
  clear HC HG
  go_wp2_with fail
  refine HC1.out.mono ?_
  rintro e w2 ⟨D, c, rfl, o, b2⟩
  have HO := Lib.hid o
  have HB := Lib.hid (show Below w.heap.size w w2 from (below_drewN (Below.refl _ _) q).trans b2)
  clear o b2 HC1
  go_wp2_with fail
  go_ret2
  exact ⟨D, c, rfl, HO.out, HB.out⟩
end
end Go.Proofs.Ytbmgeomndfodpaa
