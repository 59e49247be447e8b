/-
  append at an operation that is guarded, its guard met.
-/
import Derived.Test.YtepmnhlfjidhjabApp2
namespace Go.Mem
open Go.RowKit
theorem wpList_append_ownG {P : Program} {w : World} {ops : Array Oper} {rest : List Oper} {o : Oper} {a : Act} {Q : Exit → Act → World → Prop} (hw : Region.wanted o (yielded ops a.tmps) = true) (s x : Operand) (t tx : TypeId)
    (ho : o.op = .call { callee := .builtin .append, args := #[s, x], argTypes := #[t, tx] }) (e : TypeId) (i : TypeInfo) (z : Value) (sz bytes : Nat) (ht : P.underlying t = some (.slice e)) (hi : P.info? e = some i) (hz : i.zero = some z) (hsz : i.size = sz) (hby : i.bytes = bytes) (hzs : z.cells.size = sz)
    (B : Nat) (D : Option Addr) (k cap : Nat) (pre : List Value) (hs : a.eval s = .slice D k cap) (hown : OwnB w B e sz D k cap pre) (v : Value) (hx : a.eval x = v) (n : Nat) (news : List Value) (hsrc : Src P sz tx v n news w)
    (h63 : k + n ≤ 140737488355328) (hbytes : (k + n) * bytes ≤ 140737488355328) (w0 : World) (hbel : Below B w0 w) (hBs : B ≤ w.heap.size)
    (h : ∀ w' D' cap', Hid (OwnB w' B e sz D' (k + n) cap' (pre ++ news)) → Hid (Kept w w' D D') → Below B w0 w' → w.heap.size ≤ w'.heap.size → wpList P ops Q rest (a.put o.dst (.slice D' (k + n) cap')) w') :
    wpList P ops Q (o :: rest) a w := by
  show (if _ then _ else _)
  rw [if_pos hw]
  exact .inl (wp_append_ownK s x t tx ho e i z sz bytes ht hi hz hsz hby hzs B D k cap pre hs hown v hx n news hsrc h63 hbytes w0 hbel hBs h)
end Go.Mem
