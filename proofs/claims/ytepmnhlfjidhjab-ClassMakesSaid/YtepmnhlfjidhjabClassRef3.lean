/-
  The document's own classes: Right.
-/
import Derived.Test.YtepmnhlfjidhjabClassRef2
namespace Go.Proofs.Ytepmnhlfjidhjab
open Go.RowKit Go.Mem

theorem take_eq {m l : List (Int × Int)} {k : Nat} (h : m.take k = l.take k) (h1 : m.length = k) (h2 : l.length = k) : m = l := by
  rw [List.take_of_length_le (by omega), List.take_of_length_le (by omega)] at h; exact h
theorem take_ne {m l : List (Int × Int)} {k : Nat} (h1 : k < m.length) (h2 : k < l.length) (h : m[k] ≠ l[k]) : m ≠ l := fun e => by subst e; exact h rfl
set_option maxRecDepth 100000 in
set_option maxHeartbeats 3200000 in
theorem refRight_calls (A : Option Addr) (n c : Nat) (l : List (Int × Int)) (w : World) (hl : l.length = n) (hn : n ≤ 1000) (hs : Sl w A (flatR l)) (hi : In32 l) :
    Calls Try.prog 40 #[.slice A n c] w (Says (Cls.rightZ 0 l) w) := by
  subst hl
  have HM := Lib.hid (refMake_calls A l.length c l w rfl hn hs hi)
  have HS := Lib.hid hs
  have HR := Lib.hid (Cls.right_mk l)
  have hml := Cls.mkR_len l
  unfold AnsEnd RangesEnd at HM
  have HA : Hid (Cls.ans true l = Cls.mkR l) := (show _ = _ from rfl)
  unfold Says
  rw [HA.out] at HM
  generalize Cls.mkR l = m at HM HR hml
  generalize Cls.rightZ 0 l = b at HR
  clear hs hi HA
  go_enter Try.func40, Try.ntmps40
  go_wp2_with fail
  refine HM.out.mono ?_
  rintro e w1 ⟨D, cm, rfl, ho, hB⟩
  have HO := Lib.hid ho.sl
  have HSl := Lib.hid (HS.out.below hB)
  clear HM HS ho
  by_cases hlen : m.length = l.length
  · generalize hk0 : m.length = ml at *
    subst hlen
    have HML := Lib.hid hk0
    clear hk0
    have d0 : ((l.length : Int) != (l.length : Int)) = false := by simp
    have HT0 : Hid (m.take 0 = l.take 0) := (show _ = _ from rfl)
    go_wp2_with fail
    go_loopw [4] (fun i wr => ∃ (k : Nat), k ≤ l.length ∧ i = .int .i64 k ∧ Hid (m.take k = l.take k) ∧ ∃ q, wr = w1.drewN q) (fun i _ => l.length - (intOf i).toNat)
    case atStart => exact ⟨0, Nat.zero_le _, rfl, HT0, 0, rfl⟩
    case round =>
      clear HT0 d0
      obtain ⟨k, hk, rfl, HT, q, rfl⟩ := hrel
      by_cases hlt : k < l.length
      · have hltm : k < m.length := by have := HML.out; omega
        obtain ⟨b1, o1, rfl, x0, x1⟩ := Sl.range HO.out (List.getElem?_eq_getElem hltm)
        obtain ⟨b2, o2, rfl, y0, y1⟩ := Sl.range HSl.out (List.getElem?_eq_getElem hlt)
        have HE : Hid (m[k] = l[k] → m.take (k + 1) = l.take (k + 1)) := (show _ → _ from fun h => by
          rw [List.take_succ_eq_append_getElem hltm, List.take_succ_eq_append_getElem hlt, HT.out, h])
        have HNE : Hid (m[k] ≠ l[k] → b = false) := (show _ → _ from fun h => by rw [HR.out]; exact decide_eq_false (take_ne hltm hlt h))
        generalize m[k] = u at *
        generalize l[k] = v at *
        obtain ⟨u1, u2⟩ := u
        obtain ⟨v1, v2⟩ := v
        simp only at x0 x1 y0 y1
        have i0 : (0 : Int) ≤ (k : Int) := Int.natCast_nonneg _
        have i1 : (k : Int) < (l.length : Int) := by omega
        clear hltm
        by_cases h1 : u1 = v1
        · by_cases h2 : u2 = v2
          · have HT2 := Lib.hid (HE.out (by rw [h1, h2]))
            have e1 : (u1 == v1) = true := beq_iff_eq.2 h1
            have e2 : (u2 == v2) = true := beq_iff_eq.2 h2
            clear h1 h2 HE HNE
            go_wp2_with fail
            go_quiet (fail)
            go_wp2_with fail
            go_roundw
            case rel => exact ⟨k + 1, by omega, by go_num, HT2, _, rfl⟩
            case measure => simp [intOf]; omega
          · have HF := Lib.hid (HNE.out (fun e => h2 (by injection e)))
            have e1 : (u1 == v1) = true := beq_iff_eq.2 h1
            have e2 : (u2 == v2) = false := beq_eq_false_iff_ne.2 h2
            clear h1 h2 HE HNE
            go_wp2_with fail
            go_quiet (fail)
            go_wp2_with fail
            go_ret
            exact ⟨by rw [HF.out]; rfl, below_drewN (below_drewN hB _) _⟩
        · have HF := Lib.hid (HNE.out (fun e => h1 (by injection e)))
          have e1 : (u1 == v1) = false := beq_eq_false_iff_ne.2 h1
          clear h1 HE HNE
          go_wp2_with fail
          go_quiet (fail)
          go_wp2_with fail
          go_ret
          exact ⟨by rw [HF.out]; rfl, below_drewN (below_drewN hB _) _⟩
      · obtain rfl : k = l.length := by omega
        have HF : Hid (b = true) := (show _ = _ from by rw [HR.out]; exact decide_eq_true (take_eq HT.out HML.out rfl))
        go_wp2_with fail
        go_ret
        exact ⟨by rw [HF.out]; rfl, below_drewN hB _⟩
  · have HF : Hid (b = false) := (show _ = _ from by rw [HR.out]; exact decide_eq_false (fun e => hlen (by rw [e])))
    have d0 : ((m.length : Int) != (l.length : Int)) = true := by simp; omega
    clear hlen
    go_wp2_with fail
    go_ret
    exact ⟨by rw [HF.out]; rfl, hB⟩
end Go.Proofs.Ytepmnhlfjidhjab
