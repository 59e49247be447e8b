/-
  slices.Insert, Delete at byte slices, in the form that a table's methods take them in.
-/
import Derived.Test.YtbmgeomndfodpaaCloneL
import Derived.Test.YtbmgeomndfodpaaDelL
import Derived.Test.YtbmgeomndfodpaaTabW
namespace Go.Proofs.Ytbmgeomndfodpaa
open Go.RowKit Go.Mem Go.Proofs
def InsEndsL1 (w0 w : World) (B : Nat) (D : Option Addr) (l : List Value) (e : Ending) (w' : World) : Prop := ∃ D' c, e = .returned (.slice D' l.length c) ∧ OwnB w' B 27 1 D' l.length c l ∧ Kept w w' D D' ∧ Below B w0 w' ∧ w.heap.size ≤ w'.heap.size ∧ c ≤ 9223372036854775807
theorem insertL1_calls (B : Nat) (D : Option Addr) (n c i : Nat) (pre : List Value) (v : Value) (vb : Nat) (w0 w : World) (ho : OwnB w B 27 1 D n c pre) (hi : i ≤ n) (hn : n ≤ 1000000) (hc63 : c ≤ 9223372036854775807) (hv : Blk w vb 27 [v]) (hne : D ≠ some ⟨vb, 0, none⟩) (h1 : ∀ u ∈ pre, u.oneCell' = true) (h1v : v.oneCell' = true) (hbel : Below B w0 w) (hBs : B ≤ w.heap.size) :
    Calls Try.prog 112 #[.slice D n c, .int .i64 (i : Int), .slice (some ⟨vb, 0, none⟩) 1 1] w (InsEndsL1 w0 w B D (pre.take i ++ ([v] ++ pre.drop i))) := by
  have hpl : pre.length = n := by have := ho.len; omega
  have hl : (pre.take i ++ ([v] ++ pre.drop i)).length = n + 1 := by simp; omega
  have h := insertL_calls B D n c i pre [v] vb w0 w ho hi hn hc63 hv rfl hne h1 (fun u hu => by rw [List.mem_singleton.1 hu]; exact h1v) hbel hBs
  unfold InsEndsL at h
  unfold InsEndsL1
  rw [hl]
  exact h
theorem deleteL1_calls (B : Nat) (D : Option Addr) (n c : Nat) (ks : List Sb) (i : Nat) (w0 w : World) (ho : OwnB w B 27 1 D n c (ks.map Sb.val)) (hi : i < n) (hn : n ≤ 1000000) (hbel : Below B w0 w) (hBs : B ≤ w.heap.size) :
    Calls Try.prog 114 #[.slice D n c, .int .i64 (i : Int), .int .i64 ((i : Int) + 1)] w fun e w' => e = .returned (.slice D (n - 1) c) ∧ OwnB w' B 27 1 D (n - 1) c ((ks.take i ++ ks.drop (i + 1)).map Sb.val) ∧ Kept w w' D D ∧ Below B w0 w' ∧ w.heap.size ≤ w'.heap.size := by
  have h := deleteL_calls B D n c i (ks.map Sb.val) w0 w ho hi hn (fun u hu => by obtain ⟨_, _, rfl⟩ := List.mem_map.1 hu; rfl) hbel hBs
  unfold DelEndsL at h
  rw [← List.map_take, ← List.map_drop, ← List.map_append] at h
  rw [show (i : Int) + 1 = ((i + 1 : Nat) : Int) by omega]
  exact h
end Go.Proofs.Ytbmgeomndfodpaa
