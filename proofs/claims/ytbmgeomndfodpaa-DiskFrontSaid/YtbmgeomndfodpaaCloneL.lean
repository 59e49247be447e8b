/-
  slices.Clone at rows of byte slices.
-/
import Derived.Test.YtbmgeomndfodpaaInsL
import Derived.Test.YtbmgeomndfodpaaAppV
import Derived.Test.YtbmgeomndfodpaaTabLib2
import Derived.Lib.SliceRun
namespace Go.Proofs.Ytbmgeomndfodpaa
open Go.RowKit Go.Mem Go.Proofs

/-- a slice's words -/
structure Sb where
  d : Option Addr
  n : Nat
  c : Nat
def Sb.val (s : Sb) : Value := .slice s.d s.n s.c
set_option maxRecDepth 100000 in
set_option maxHeartbeats 1600000 in
theorem cloneL_calls (D : Option Addr) (n c : Nat) (zs : List Sb) (w : World) (hs : Sl w D (zs.map Sb.val)) (hl : zs.length = n) (hn : n ≤ 1000000) :
    Calls Try.prog 96 #[.slice D n c] w fun e w' => ∃ D' c', e = .returned (.slice D' n c') ∧ OwnB w' w.heap.size 27 1 D' n c' (zs.map Sb.val) ∧ Below w.heap.size w w' ∧ c' ≤ 9223372036854775807 := by
  subst hl
  have q22 : ∀ (w : World) (a : Option Addr) (n c n' c' : Nat), (binOp .eql 59 (.slice a n c) (.slice none n' c')).run Try.prog w = .ok (.bool a.isNone) w := fun w a n c n' c' => Lib.run_eql_slice_nil w _ _ a n c n' c' Try.underlying59
  cases D with
  | none =>
    have hk : zs = [] := by
      have := hs.none_nil rfl
      simpa using this
    subst hk
    rw [show ([] : List Sb).length = 0 from rfl]
    clear hs
    go_enter Try.func96, Try.ntmps96
    go_wp2_with fail
    go_ret
    exact ⟨none, 0, rfl, OwnB.nil _ _ _ _, Below.refl _ _, by decide⟩
  | some a =>
    obtain ⟨i0, hi, hz0, hz1, hz2⟩ := info_parts infoL
    have hb1 := (Below.refl w.heap.size w).alloc (Nat.le_refl _) (.cells #[] 27)
    have HO : Hid (OwnB (w.alloc (.cells #[] 27)) w.heap.size 27 1 (some ⟨w.heap.size, 0, none⟩) 0 0 []) := (show OwnB _ _ _ _ _ _ _ _ from OwnB.empty rfl (Nat.le_refl _))
    have hone : ∀ u ∈ zs.map Sb.val, u.oneCell' = true := by intro u hu; obtain ⟨_, _, rfl⟩ := List.mem_map.1 hu; rfl
    have HSR := Lib.hid (srcSl (tx := 59) (c := c) Try.underlying59 (List.length_map _) (hs.below hb1) hone)
    have HL := Lib.hid (show 0 + zs.length = zs.length from Nat.zero_add _)
    clear hs hone
    generalize hlb : zs.length = n at *
    go_enter Try.func96, Try.ntmps96
    go_wp2_with (at_builtin; refine wpList_append_vw (o := ⟨some 7, _, _, _, _, _⟩) rfl (.tmp 5) (.tmp 6) 59 59 rfl 27 i0 (.slice none 0 0) 1 24 Try.underlying59 hi hz0 hz1 hz2 rfl w.heap.size (some ⟨w.heap.size, 0, none⟩) 0 0 [] rfl HO.out.vw (by decide) (.slice (some a) n c) rfl n (zs.map Sb.val) HSR.out (by omega) (by omega) w hb1 (by simp) ?_)
    intro w3 D3 c3 _ HK3 _ _ HE3 hb3 hsz3 hm3
    try rw [HL.out]
    have HO4 : Hid (OwnB w3 w.heap.size 27 1 D3 n c3 (zs.map Sb.val)) := (show OwnB _ _ _ _ _ _ _ _ from by have := HE3.out HO.out; simpa using this)
    clear HK3 HE3 hsz3 HO HSR hb1
    go_wp2_with fail
    go_ret
    exact ⟨D3, c3, rfl, HO4.out, hb3, hm3⟩
end Go.Proofs.Ytbmgeomndfodpaa
