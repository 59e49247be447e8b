/-
  A slice of bytes as a string; texts as cells.
-/
import Derived.Test.YtbmgeomndfodpaaObj
import Derived.Laws.IdiomStrings
namespace Go.Mem
open Go.RowKit

/-- a text as a cell -/
def S8 (l : List UInt8) : Value := .string ⟨l.toArray⟩
theorem text_one (ss : List (List UInt8)) : ∀ u ∈ ss.map S8, u.oneCell' = true := by
  intro u hu; obtain ⟨_, _, rfl⟩ := List.mem_map.1 hu; rfl
theorem S8_map (ss : List (List UInt8)) : ss.map S8 = (ss.map fun l => (⟨l.toArray⟩ : ByteArray)).map Value.string := by
  rw [List.map_map]; rfl
theorem conv_str {P : Program} (w : World) (src dst e : TypeId) (hs : P.underlying src = some (.slice e)) (he : P.underlying e = some (.int .u8)) (hd : P.underlying dst = some .string) (A : Option Addr) (n c : Nat) (bs : List UInt8) (hl : bs.length = n) (h : Sl w A (bs.map B8)) :
    (convert src dst (.slice A n c)).run P w = .ok (S8 bs) w := by
  subst hl
  cases A with
  | none =>
    have := h.none_nil rfl
    obtain rfl : bs = [] := List.map_eq_nil_iff.1 this
    show (convert src dst (.slice none 0 c)).run P w = _
    rw [run_convert_bytes_string w src dst e none 0 c hs he hd]
    simp [Conv.bytesToString]
    rfl
  | some a =>
    refine run_convert_bytes_back w src dst e a c bs hs he hd (fun j hj => ?_)
    obtain ⟨b, o, e, hc⟩ := h.byte hj
    obtain rfl : a = ⟨b, o, none⟩ := by injection e
    rw [Addr.add_lit]; exact hc
end Go.Mem
