/-
  slices.Clone at bytes.
-/
import Derived.Test.YtbmgeomndfodpaaFoot
import Derived.Test.YtbmgeomndfodpaaInfoU8
import Derived.Lib.SliceRun
namespace Go.Proofs.Ytbmgeomndfodpaa
open Go.RowKit Go.Mem Go.Proofs

/-- bytes of the call's own -/
def BytesEnd (w : World) (bs : List UInt8) (e : Ending) (w' : World) : Prop := ∃ (D : Option Addr) (c : Nat), e = .returned (.slice D bs.length c) ∧ OwnB w' w.heap.size 5 1 D bs.length c (bs.map B8) ∧ Below w.heap.size w w'
set_option maxRecDepth 100000 in
set_option maxHeartbeats 1600000 in
theorem cloneB_calls (D : Option Addr) (n c : Nat) (bs : List UInt8) (w : World) (hs : Sl w D (bs.map B8)) (hl : bs.length = n) (hn : n ≤ 1000000000) :
    Calls Try.prog 58 #[.slice D n c] w (BytesEnd w bs) := by
  subst hl
  have q22 : ∀ (w : World) (a : Option Addr) (n c n' c' : Nat), (binOp .eql 27 (.slice a n c) (.slice none n' c')).run Try.prog w = .ok (.bool a.isNone) w := fun w a n c n' c' => Lib.run_eql_slice_nil w _ _ a n c n' c' Try.underlying27
  cases D with
  | none =>
    have hk : bs = [] := by
      have := hs.none_nil rfl
      simpa using this
    subst hk
    have HFin : Hid (BytesEnd w [] (.returned (.slice none 0 0)) w) := (show BytesEnd _ _ _ _ from ⟨none, 0, rfl, OwnB.nil _ _ _ _, Below.refl _ _⟩)
    rw [show ([] : List UInt8).length = 0 from rfl]
    clear hs
    go_enter Try.func58, Try.ntmps58
    go_wp2_with fail
    go_ret
    exact HFin.out
  | some a =>
    obtain ⟨i0, hi, hz0, hz1, hz2⟩ := info_parts infoU8
    have hb1 := (Below.refl w.heap.size w).alloc (Nat.le_refl _) (.cells #[] 5)
    have HO : Hid (OwnB (w.alloc (.cells #[] 5)) w.heap.size 5 1 (some ⟨w.heap.size, 0, none⟩) 0 0 []) := (show OwnB _ _ _ _ _ _ _ _ from OwnB.empty rfl (Nat.le_refl _))
    have HSR := Lib.hid (srcSl (tx := 27) (c := c) Try.underlying27 (List.length_map _) (hs.below hb1) (bytes_one bs))
    have HL := Lib.hid (show 0 + bs.length = bs.length from Nat.zero_add _)
    clear hs
    generalize hlb : bs.length = n at *
    go_enter Try.func58, Try.ntmps58
    go_wp2_with (at_builtin; refine wpList_append_ownK (o := ⟨some 7, _, _, _, _, _⟩) rfl (.tmp 5) (.tmp 6) 27 27 rfl 5 i0 (.int .u8 0) 1 1 Try.underlying27 hi hz0 hz1 hz2 rfl w.heap.size (some ⟨w.heap.size, 0, none⟩) 0 0 [] rfl HO.out (.slice (some a) n c) rfl n (bs.map B8) HSR.out (by omega) (by omega) w hb1 (by simp) ?_)
    intro w3 D3 c3 HO3 HK3 hb3 hsz3
    try rw [HL.out]
    have HO4 : Hid (OwnB w3 w.heap.size 5 1 D3 n c3 (bs.map B8)) := (show OwnB _ _ _ _ _ _ _ _ from by have := HO3.out; simpa using this)
    have HFin : Hid (BytesEnd w bs (.returned (.slice D3 n c3)) w3) := (show BytesEnd _ _ _ _ from ⟨D3, c3, by rw [hlb], by rw [hlb]; exact HO4.out, hb3⟩)
    clear HO4 HO3 HK3 hb3 hsz3 HO HSR hb1
    go_wp2_with fail
    go_ret
    exact HFin.out
end Go.Proofs.Ytbmgeomndfodpaa
