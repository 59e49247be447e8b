/-
  The contracts of (*sum.Sum).Add and (*sum.Sum).Value.
-/
import Derived.Test.YtjmiejcgahajfaaDoorOn
namespace Go.Proofs.YtjmiejcgahajfaaDoor
open Go.RowKit Go.Mem

set_option maxHeartbeats 400000 in
theorem add_calls (b o : Nat) (c : BitVec 32) (A : Option Addr) (n cap : Nat) (bs : List UInt8) (w : World) (hl : bs.length = n) (hn : n ≤ 9223372036854775807) (hT : Tabs w) (hs : Sl w A (bs.map B8))
    (hc : w.cell? ⟨b, o, none⟩ = some (.int .u32 (c.toNat : Int))) (hf : w.frozen? ⟨b, o, none⟩ = false) :
    Calls Tryd.prog 8 #[.pointer (some ⟨b, o, none⟩), .slice A n cap] w fun e w' => e = .returned (.tuple #[]) ∧ w'.cell? ⟨b, o, none⟩ = some (.int .u32 ((Crc.crc c bs).toNat : Int)) ∧ w'.frozen? ⟨b, o, none⟩ = false ∧ w.grownBy w' (some b) := by
  go_enter Tryd.func8, Tryd.ntmps8
  go_wp2_with fail
  refine (on_calls c A n cap bs w hl hn hT hs).mono ?_
  rintro e w' ⟨rfl, m, rfl⟩
  go_wp2_with fail
  go_end0
  exact ⟨rfl, World.cell?_setCell_same _ _ _ hc, (World.frozen?_setCell _ _ _ _).trans hf, grown_setCell w b o _ m⟩

theorem add_nil_calls (v : Value) (w : World) : Calls Tryd.prog 8 #[.pointer none, v] w fun e w' => e = .returned (.tuple #[]) ∧ w = w' := by
  go_enter Tryd.func8, Tryd.ntmps8
  go_wp2_with fail
  go_end0
  exact ⟨rfl, rfl⟩

theorem value_calls (b o : Nat) (c : Int) (w : World) (hc : w.cell? ⟨b, o, none⟩ = some (.int .u32 c)) :
    Calls Tryd.prog 11 #[.pointer (some ⟨b, o, none⟩)] w fun e w' => e = .returned (.int .u32 c) ∧ w = w' := by
  go_enter Tryd.func11, Tryd.ntmps11
  go_wp2_with fail
  go_ret
  exact ⟨rfl, rfl⟩
theorem value_nil_calls (w : World) : Calls Tryd.prog 11 #[.pointer none] w fun e w' => e = .returned (.int .u32 0) ∧ w = w' := by
  go_enter Tryd.func11, Tryd.ntmps11
  go_wp2_with fail
  go_ret
  exact ⟨rfl, rfl⟩
end Go.Proofs.YtjmiejcgahajfaaDoor
