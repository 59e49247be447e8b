/-
  The contract of Len of a box of numbers.
-/
import Derived.Test.YtepmnhlfjidhjabMailI2
namespace Go.Proofs.Ytepmnhlfjidhjab
open Go.RowKit Go.Mem Go.Conc
set_option maxRecDepth 100000 in
theorem lenI_calls (p c cap : Nat) (buf : List Value) (cl : Bool) (w : World) (h : BoxAt w 73 p c cap buf cl) :
    Calls Try.prog 18 #[.pointer (some ⟨p, 0, none⟩)] w fun e w' => e = .returned (.int .i64 (buf.length : Int)) ∧ w' = w := by
  have c0 := h.cell0
  obtain ⟨_, ⟨s, r, hc⟩, _⟩ := h
  have hln : ∀ ty, (Builtin.len_ #[71] ty #[.chan (some c)]).run Try.prog w = .ok (.int .i64 (buf.length : Int)) w := fun ty => run_len_chan (P := Try.prog) 71 ty Try.underlying71 hc
  clear hc
  go_enter Try.func18, Try.ntmps18
  go_wp2_with fail
  go_ret
  exact ⟨rfl, rfl⟩
end Go.Proofs.Ytepmnhlfjidhjab
