/-
  The contract of yard's Create, where it is refused.
-/
import Derived.Test.YtbmgeomndfodpaaYardSt
namespace Go.Proofs.Ytbmgeomndfodpaa
open Go.RowKit Go.Mem Go.Proofs

/-- why a file is not created; 0: it is -/
def createNo (s : ByteArray) (m : List MF) : Int := if rightB s = false then 14 else if nameNo s m ≠ 0 then 8 else if m.length = 12 then 9 else 0
set_option maxRecDepth 100000 in
set_option maxHeartbeats 1600000 in
theorem create_refused {w : World} {B y : Nat} {m : List MF} {tk : List (Int × Int)} {pF pT : Nat} {DK DV DK2 DV2 : Option Addr} {vs : List Fl} (h : Yd w B y m tk pF pT DK DV DK2 DV2 vs) (hm : m.length ≤ 1000000) (s : ByteArray) (hs : s.size ≤ 9223372036854775807) (hbad : createNo s m ≠ 0) :
    Calls Try.prog 15 #[.pointer (some ⟨y, 0, none⟩), .string s] w fun e w' => e = .returned (.int .i64 (createNo s m)) ∧ Yd w' B y m tk pF pT DK DV DK2 DV2 vs ∧ Below w.heap.size w w' := by
  have HR := Lib.hid (right_calls s w hs)
  have HY := Lib.hid h
  have HN := Lib.hid (fun q => (show Yd (w.drewN q) B y m tk pF pT DK DV DK2 DV2 vs from h.below (below_drewN (Below.refl _ _) q)).named_calls hm s)
  have hc : Hid (createNo s m = if rightB s = false then 14 else if nameNo s m ≠ 0 then 8 else if m.length = 12 then 9 else 0) := (show _ = _ from rfl)
  generalize createNo s m = res at *
  clear h
  cases hr : rightB s with
  | false =>
    obtain rfl : res = 14 := by have := hc.out; rw [hr] at this; simpa using this
    rw [hr] at HR
    go_enter Try.func15, Try.ntmps15
    go_wp2_with fail
    refine HR.out.mono ?_
    rintro e w1 ⟨rfl, q, rfl⟩
    go_wp2_with fail
    go_ret
    exact ⟨rfl, HY.out.below (below_drewN (Below.refl _ _) q), below_drewN (Below.refl _ _) q⟩
  | true =>
    rw [hr] at HR
    have hc2 : res = if nameNo s m ≠ 0 then 8 else if m.length = 12 then 9 else 0 := by have := hc.out; rw [hr] at this; simpa using this
    clear hc
    by_cases hn : nameNo s m = 0
    · have hl : m.length = 12 := by
        by_cases hl : m.length = 12
        · exact hl
        · rw [if_neg (by simpa using hn), if_neg hl] at hc2; exact absurd hc2 hbad
      obtain rfl : res = 9 := by rw [if_neg (by simpa using hn), if_pos hl] at hc2; exact hc2
      rw [hn] at HN
      clear hc2
      go_enter Try.func15, Try.ntmps15
      go_wp2_with fail
      refine HR.out.mono ?_
      rintro e w1 ⟨rfl, q, rfl⟩
      have HN1 := Lib.hid (HN.out q)
      clear HN HR
      go_wp2_with fail
      refine HN1.out.mono ?_
      rintro e w2 ⟨rfl, h2, b2⟩
      have HL := Lib.hid (lenIF_calls B pF DK DV (m.map MF.ino) vs w2 h2.f)
      rw [List.length_map, hl] at HL
      have c0 := h2.b.cell 0
      simp only [List.getElem?_cons_zero] at c0
      have H2 := Lib.hid h2
      have HB2 := Lib.hid b2
      clear h2 b2 HN1
      go_wp2_with fail
      refine HL.out.mono ?_
      rintro e w3 ⟨rfl, rfl⟩
      go_wp2_with fail
      go_ret
      exact ⟨rfl, H2.out, (below_drewN (Below.refl w.heap.size w) q).trans HB2.out⟩
    · obtain rfl : res = 8 := by rw [if_pos hn] at hc2; exact hc2
      generalize nameNo s m = x at *
      clear hc2
      go_enter Try.func15, Try.ntmps15
      go_wp2_with fail
      refine HR.out.mono ?_
      rintro e w1 ⟨rfl, q, rfl⟩
      have HN1 := Lib.hid (HN.out q)
      clear HN HR
      go_wp2_with fail
      refine HN1.out.mono ?_
      rintro e w2 ⟨rfl, h2, b2⟩
      have H2 := Lib.hid h2
      have HB2 := Lib.hid b2
      clear h2 b2 HN1
      go_wp2_with fail
      go_ret
      exact ⟨rfl, H2.out, (below_drewN (Below.refl w.heap.size w) q).trans HB2.out⟩
end Go.Proofs.Ytbmgeomndfodpaa
