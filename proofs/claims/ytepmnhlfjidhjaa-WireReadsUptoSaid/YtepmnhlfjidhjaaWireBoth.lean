/-
  The two readers, side by side: each keeps the other.
-/
import Derived.Test.YtepmnhlfjidhjaaWireDoc4
import Derived.Test.YtepmnhlfjidhjaaSameI
import Derived.Test.YtepmnhlfjidhjaaObj
import Derived.Test.YtepmnhlfjidhjaaItems2
import Derived.Deep.RegionHeld3
namespace Go.Proofs.Ytepmnhlfjidhjaa
open Go.RowKit Go.Mem

theorem sl_turned {w w' : World} {p t : Nat} {x y z : Value} {D : Option Addr} {bs : List UInt8} (hb : Blk w p t [x, y, z]) (hx : ∀ n, x ≠ .int .u8 n) (hy : ∀ n, y ≠ .int .u8 n) (hz : ∀ n, z ≠ .int .u8 n) (h : Sl w D (bs.map B8)) (g : w.grownBy w' (some p)) : Sl w' D (bs.map B8) := by
  intro k u hu
  obtain ⟨b, o', e, hc⟩ := h k u hu
  refine ⟨b, o', e, ?_⟩
  have hlt := lt_of_cell hc
  by_cases hbp : b = p
  · exfalso
    subst hbp
    obtain ⟨q, _, rfl⟩ := List.mem_map.1 (List.mem_of_getElem? hu)
    rw [hb.cell] at hc
    match o' + k, hc with
    | 0, hc => simp at hc; exact hx _ hc
    | 1, hc => simp at hc; exact hy _ hc
    | 2, hc => simp at hc; exact hz _ hc
    | (m + 3), hc => simp at hc
  · exact (World.cell?_of_block (a := ⟨b, o' + k, none⟩) (g.block b hlt (fun e => hbp (by injection e)))).trans hc
/-- both readers -/
structure RW (w0 W : World) (p q : Nat) (bs : List UInt8) (a er a2 er2 : Nat) : Prop where
  r : Rd W p bs a er
  e : Re W q bs a2 er2
  bel : Below w0.heap.size w0 W
  lo : w0.heap.size ≤ p ∧ w0.heap.size ≤ q
section
variable {w0 W W' : World} {p q : Nat} {bs : List UInt8} {a er a2 er2 a' er' : Nat}
theorem RW.ne (h : RW w0 W p q bs a er a2 er2) : p ≠ q := by
  obtain ⟨_, _, h1, _⟩ := h.r.blk
  obtain ⟨_, _, h2, _⟩ := h.e.blk
  exact h1.ne_ h2 (by decide)
theorem RW.turnR (h : RW w0 W p q bs a er a2 er2) (hr : Rd W' p bs a' er') (t : Turned p W W') : RW w0 W' p q bs a' er' a2 er2 := by
  obtain ⟨_, _, h1, _⟩ := h.r.blk
  obtain ⟨D, c, h2, h3, h4⟩ := h.e.blk
  exact ⟨hr, ⟨⟨D, c, h2.only t.1 (Ne.symm h.ne), sl_turned h1 (by simp) (by simp) (by simp) h3 t.1, h4⟩, h.e.le, h.e.len, h.e.er5⟩, below_only h.bel t.1 h.bel.size h.lo.1, h.lo⟩
theorem RW.turnE (h : RW w0 W p q bs a er a2 er2) (he : Re W' q bs a' er') (t : Turned q W W') : RW w0 W' p q bs a er a' er' := by
  obtain ⟨_, _, h1, _⟩ := h.e.blk
  obtain ⟨D, c, h2, h3, h4⟩ := h.r.blk
  exact ⟨⟨⟨D, c, h2.only t.1 h.ne, sl_turned h1 (by simp) (by simp) (by simp) h3 t.1, h4⟩, h.r.le, h.r.len, h.r.er5⟩, he, below_only h.bel t.1 h.bel.size h.lo.2, h.lo⟩
theorem RW.below (h : RW w0 W p q bs a er a2 er2) (hb : Below W.heap.size W W') : RW w0 W' p q bs a er a2 er2 :=
  ⟨h.r.keep hb, h.e.keep hb, h.bel.trans (hb.mono h.bel.size), h.lo⟩
theorem RW.drew (h : RW w0 W p q bs a er a2 er2) : RW w0 W.drew p q bs a er a2 er2 := h.below (by have := below_drewN (Below.refl W.heap.size W) 1; exact this)
theorem RW.drewN (h : RW w0 W p q bs a er a2 er2) (n : Nat) : RW w0 (W.drewN n) p q bs a er a2 er2 := h.below (below_drewN (Below.refl W.heap.size W) n)
end
theorem at_quiet (p : Nat) (bs : List UInt8) (a er : Nat) (w : World) (h : Rd w p bs a er) : Calls Try.prog 91 #[.pointer (some ⟨p, 0, none⟩)] w fun e w' => e = .returned (.int .i64 (a : Int)) ∧ w = w' := by
  obtain ⟨D, c, c0, c1, c2, f1, f2, hs, hc⟩ := h.open_
  go_enter Try.func91, Try.ntmps91
  go_wp2_with fail
  go_ret
  exact ⟨rfl, rfl⟩
theorem err_quiet (p : Nat) (bs : List UInt8) (a er : Nat) (w : World) (h : Rd w p bs a er) : Calls Try.prog 92 #[.pointer (some ⟨p, 0, none⟩)] w fun e w' => e = .returned (.int .i64 (er : Int)) ∧ w = w' := by
  obtain ⟨D, c, c0, c1, c2, f1, f2, hs, hc⟩ := h.open_
  go_enter Try.func92, Try.ntmps92
  go_wp2_with fail
  go_ret
  exact ⟨rfl, rfl⟩
theorem quietW {P : Program} {f : FuncId} {args : Array Value} {w : World} {n : Nat} {v : Value} (h : Calls P f args (w.drewN n) fun e w' => e = .returned v ∧ w.drewN n = w') : Calls P f args (w.drewN n) fun e w'' => e = .returned v ∧ ∃ m, w'' = w.drewN m :=
  h.mono fun _ _ ⟨he, hw⟩ => ⟨he, n, hw.symm⟩
set_option maxRecDepth 100000 in
set_option maxHeartbeats 1600000 in
theorem same_calls (w0 W : World) (p q : Nat) (bs : List UInt8) (a er : Nat) (h : RW w0 W p q bs a er a er) :
    Calls Try.prog 29 #[.pointer (some ⟨p, 0, none⟩), .pointer (some ⟨q, 0, none⟩)] W fun e w' => e = .returned (.bool true) ∧ ∃ n, w' = W.drewN n := by
  obtain ⟨D, c, c0, c1, c2, f1, f2, hs, hc⟩ := h.e.open_
  have HA := Lib.hid (fun n => at_quiet p bs a er (W.drewN n) (h.drewN n).r)
  have HE := Lib.hid (fun n => err_quiet p bs a er (W.drewN n) (h.drewN n).r)
  have e1 : ((a : Int) == (a : Int)) = true := beq_iff_eq.2 rfl
  have e2 : ((er : Int) == (er : Int)) = true := beq_iff_eq.2 rfl
  clear h hs
  go_enter Try.func29, Try.ntmps29
  go_wp2_with fail
  go_quiet ((first | (go_at_call 91; exact quietW (HA.out _)) | (go_at_call 92; exact quietW (HE.out _))))
  go_wp2_with fail
  go_ret
  exact ⟨rfl, _, rfl⟩
end Go.Proofs.Ytepmnhlfjidhjaa
