/-
  A row of calls on a disk that came in.
-/
import Derived.Test.YtbmgeomndfodpaaStructs
namespace Go.Proofs.Ytbmgeomndfodpaa
open Go.ChangeShapes Go.WideShapes Go.RowKit Go.Mem Go.Law
/-- a call -/
structure Ask5 where
  kind : Int
  n : Int
  name : ByteArray
  to_ : ByteArray
  A : Option Addr
  c : Nat
  data : List UInt8
def Ask5.cells (a : Ask5) : List Value := [.int .i64 a.kind, .int .i64 a.n, .string a.name, .string a.to_, .slice a.A a.data.length a.c]
structure Ask5.Ok (W : World) (a : Ask5) : Prop where
  kind : -9223372036854775808 ≤ a.kind ∧ a.kind ≤ 9223372036854775807
  n : -9223372036854775808 ≤ a.n ∧ a.n ≤ 9223372036854775807
  name : a.name.size ≤ 9223372036854775807
  to_ : a.to_.size ≤ 9223372036854775807
  len : a.data.length ≤ 9223372036854775807
  sl : Sl W a.A (a.data.map B8)
theorem RowsAt.five5 {w : World} {A : Option Addr} {xs : List Ask5} (h : RowsAt w A 5 (xs.map Ask5.cells)) {k : Nat} {x : Ask5} (hk : xs[k]? = some x) :
    ∃ b o, A = some ⟨b, o, none⟩ ∧ w.cell? ⟨b, o + k * 5, none⟩ = some (.int .i64 x.kind) ∧ w.cell? ⟨b, o + k * 5 + 1, none⟩ = some (.int .i64 x.n) ∧ w.cell? ⟨b, o + k * 5 + 2, none⟩ = some (.string x.name) ∧ w.cell? ⟨b, o + k * 5 + 3, none⟩ = some (.string x.to_) ∧ w.cell? ⟨b, o + k * 5 + 4, none⟩ = some (.slice x.A x.data.length x.c) := by
  obtain ⟨b, o, e, hc⟩ := h k x.cells (by rw [List.getElem?_map, hk]; rfl)
  exact ⟨b, o, e, hc 0 _ rfl, hc 1 _ rfl, hc 2 _ rfl, hc 3 _ rfl, hc 4 _ rfl⟩
section
variable {H : Type} {enc : TypeId × Value → H} {W : World}
set_option maxRecDepth 100000 in
theorem ask5_of_trod {fuel : Nat} {cs : List Value} {x : DataW H × List MemPlace} (hf : DataW.trod enc Try.prog W 0 (fun _ => true) true fuel 78 cs = some x) :
    ∃ a : Ask5, cs = a.cells ∧ a.Ok W := by
  obtain ⟨xs, fu, _, rfl, hl, hlen, hat⟩ := DataW.trod_struct Try.underlying78 hf
  have h0 := hat 0 _ rfl
  have h1 := hat 1 _ rfl
  have h2 := hat 2 _ rfl
  have h3 := hat 3 _ rfl
  have h4 := hat 4 _ rfl
  clear hat
  have cI : Try.prog.cellsOf 3 = 1 := by kernel_rfl
  have cS : Try.prog.cellsOf 9 = 1 := by kernel_rfl
  have cU : Try.prog.cellsOf 5 = 1 := by kernel_rfl
  have cL : Try.prog.cellsOf 27 = 1 := by kernel_rfl
  have cT : Try.prog.cellsOf 78 = 5 := by kernel_rfl
  rw [cT] at hl
  match cs, hl, xs, hlen with
  | [v0, v1, v2, v3, v4], _, [y0, y1, y2, y3, y4], _ =>
    simp only [List.getElem?_cons_zero, List.getElem?_cons_succ] at h0 h1 h2 h3 h4
    obtain ⟨a0, e0, z0, w0⟩ := DataW.trod_int Try.underlying3 h0
    obtain ⟨a1, e1, z1, w1⟩ := DataW.trod_int Try.underlying3 h1
    obtain ⟨a2, e2, z2, w2⟩ := DataW.trod_string Try.underlying9 h2
    obtain ⟨a3, e3, z3, w3⟩ := DataW.trod_string Try.underlying9 h3
    obtain ⟨A, n, c, bs, _, _, e4, q1, q2, q3, q4, _⟩ := bytes_of_trod Try.underlying27 Try.underlying5 cU h4
    injection e0 with e0
    injection e1 with e1
    injection e2 with e2
    injection e3 with e3
    injection e4 with e4
    subst e0 e1 e2 e3 e4 q1
    unfold maxLen at *
    exact ⟨⟨a0, a1, a2, a3, A, c, bs⟩, rfl, ⟨i64_of_wf w0, i64_of_wf w1, by omega, by omega, (show bs.length ≤ _ from by omega), q4⟩⟩
set_option maxRecDepth 100000 in
theorem open_asks5 {v : Value} {d : DataW H} {ps : List MemPlace} {b0 : Nat} (hv : Value.okWide Try.prog W .any b0 71 v) (h : DataW.Trod enc Try.prog W 0 (fun _ => true) true 71 v d ps) :
    ∃ (A : Option Addr) (n c : Nat) (rs : List Ask5), v = .slice A n c ∧ rs.length = n ∧ n ≤ c ∧ c ≤ maxLen ∧ RowsAt W A 5 (rs.map Ask5.cells) ∧ ∀ r ∈ rs, r.Ok W :=
  open_structs Ask5.cells (Ask5.Ok W) Try.underlying71 (by kernel_rfl) (by decide) (fun _ => rfl) (fun fuel cs x hf => ask5_of_trod hf) hv h
end
end Go.Proofs.Ytbmgeomndfodpaa
