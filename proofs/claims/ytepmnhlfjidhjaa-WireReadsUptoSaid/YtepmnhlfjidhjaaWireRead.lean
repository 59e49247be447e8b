/-
  The contract of wire.Read.
-/
import Derived.Test.YtepmnhlfjidhjaaWireMethods
import Derived.Test.YtepmnhlfjidhjaaWireEnc
namespace Go.Proofs.Ytepmnhlfjidhjaa
open Go.RowKit Go.Mem

set_option maxHeartbeats 1600000 in
theorem read_calls (A : Option Addr) (n cap : Nat) (bs : List UInt8) (w : World) (hl : bs.length = n) (hs : Sl w A (bs.map B8)) (hn : n ≤ 70368744177664) :
    Calls Try.prog 27 #[.slice A n cap] w fun e w' => ∃ p, e = .returned (.pointer (some ⟨p, 0, none⟩)) ∧ w.heap.size ≤ p ∧ Rd w' p bs 0 0 ∧ Below w.heap.size w w' := by
  obtain ⟨i0, hi, hz0, hz1, hz2⟩ := info_parts infoU8
  have hlm : (bs.map B8).length = n := by rw [List.length_map]; exact hl
  have hb0 := Below.refl w.heap.size w
  go_enter Try.func27, Try.ntmps27
  go_wp2_with (at_builtin; refine wpList_append_ownB (o := ⟨some 4, _, _, _, _, _⟩) rfl (.const (.slice none 0 0)) (.tmp 3) 24 24 rfl 5 i0 (.int .u8 0) 1 1 Try.underlying24 hi hz0 hz1 hz2 rfl w.heap.size none 0 0 [] rfl (OwnB.nil _ _ _ _) (.slice A n cap) rfl n (bs.map B8) (srcSl Try.underlying24 hlm hs (bytes_one _)) (by omega) (by omega) w hb0 (Nat.le_refl _) ?_)
  intro w1 D1 c1 HO hb1 hsz1
  go_wp2_with fail
  go_ret
  have hl1 := OwnB.bytes HO.out
  refine ⟨w1.heap.size, rfl, hsz1, ⟨⟨D1, c1, ?_, ?_, by rw [hl1]; exact HO.out.le⟩, Nat.zero_le _, by omega, by omega⟩, hb1.alloc hsz1 _⟩
  · rw [hl1]; exact Blk.new _ _ _
  · exact HO.out.sl.alloc _
end Go.Proofs.Ytepmnhlfjidhjaa
