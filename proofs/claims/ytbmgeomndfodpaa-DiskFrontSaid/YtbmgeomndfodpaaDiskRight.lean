/-
  The contract of disk's right: which names a file may have.
-/
import Derived.Test.YtbmgeomndfodpaaFoot
import Derived.Test.YtbmgeomndfodpaaI64
namespace Go.Proofs.Ytbmgeomndfodpaa
open Go.RowKit Go.Mem Go.Proofs

/-- may a file have this name? -/
def okD (b : UInt8) : Bool := !(decide (b.toNat < 33) || decide (126 < b.toNat))
def rightD (s : ByteArray) : Bool := s.data.toList.all okD && (!s.toList.isEmpty && decide ((s.size : Int) ≤ 32))

set_option maxRecDepth 100000 in
set_option maxHeartbeats 1600000 in
theorem dright_calls (s : ByteArray) (w : World) (hs : s.size ≤ 9223372036854775807) :
    Calls Try.prog 68 #[.string s] w fun e w' => e = .returned (.bool (rightD s)) ∧ ∃ q, w' = w.drewN q := by
  have HR := Lib.hid (show rightD s = (s.data.toList.all okD && (!s.toList.isEmpty && decide ((s.size : Int) ≤ 32))) from rfl)
  generalize rightD s = res at HR
  go_enter Try.func68, Try.ntmps68
  go_wp2_with fail
  go_loopw [3, 6] (fun _ i wr => ∃ (k : Nat), k ≤ s.size ∧ i = .int .i64 k ∧ Hid ((s.data.toList.take k).all okD = true) ∧ ∃ q, wr = w.drewN q) (fun _ i _ => s.size - (intOf i).toNat)
  case atStart => exact ⟨0, Nat.zero_le _, rfl, (show _ = _ from rfl), 0, rfl⟩
  case round =>
    obtain ⟨k, hk, rfl, HE, q, rfl⟩ := hrel
    by_cases hlt : k < s.size
    · have i1 : (k : Int) < (s.size : Int) := by omega
      have hw1 : IntKind.i64.wrap ((k : Int) + 1) = (k : Int) + 1 := by rw [IntKind.wrap_i64]; omega
      have hlen : s.data.toList.length = s.size := rfl
      have hget : s.data.toList[k]? = some s[k] := by rw [List.getElem?_eq_getElem (by rw [hlen]; exact hlt)]; rfl
      have HN := Lib.hid (show okD s[k] = true → (s.data.toList.take (k + 1)).all okD = true from fun h => by
        rw [List.take_add_one, hget, List.all_append, HE.out]; simpa using h)
      have HX := Lib.hid (show okD s[k] = false → res = false from fun h => by
        have hm : s[k] ∈ s.data.toList := List.mem_of_getElem? hget
        have : s.data.toList.all okD = false := by
          cases hc : s.data.toList.all okD with
          | false => rfl
          | true => rw [List.all_eq_true.1 hc _ hm] at h; cases h
        rw [HR.out, this]; rfl)
      clear hget hlen
      by_cases h1 : s[k].toNat < 33
      · have d1 : ((s[k].toNat : Nat) : Int) < 33 := by omega
        have e1 := HX.out (by simp [okD, h1])
        clear HN HX
        go_wp2_with fail
        go_ret
        exact ⟨by first | rfl | (rw [e1]; rfl), _, rfl⟩
      · have d1 : ¬ ((s[k].toNat : Nat) : Int) < 33 := by omega
        by_cases h2 : 126 < s[k].toNat
        · have d2 : (126 : Int) < ((s[k].toNat : Nat) : Int) := by omega
          have e1 := HX.out (by simp [okD, h2])
          clear HN HX
          go_wp2_with fail
          go_ret
          exact ⟨by first | rfl | (rw [e1]; rfl), _, rfl⟩
        · have d2 : ¬ (126 : Int) < ((s[k].toNat : Nat) : Int) := by omega
          have e1 := HN.out (by simp [okD, h1, h2])
          clear HN HX
          go_wp2_with fail
          exact ⟨⟨k + 1, hlt, rfl, (show _ = _ from e1), q, rfl⟩, by simp [intOf]; omega⟩
    · have i1 : ¬ ((k : Int) < (s.size : Int)) := by omega
      have e1 : (s.data.toList).all okD = true := by
        have := HE.out
        rwa [List.take_of_length_le (by show s.size ≤ k; omega)] at this
      cases hE : s.toList.isEmpty
      all_goals
        go_wp2_with fail
        go_ret
        exact ⟨by rw [HR.out, e1, hE]; rfl, _, rfl⟩
end Go.Proofs.Ytbmgeomndfodpaa
