/-
  The law's own 'put', for every item.
-/
import Derived.Test.YtjmiejcgahajfaaWirePutMore
import Derived.Test.YtjmiejcgahajfaaItem
namespace Go.Proofs.Ytjmiejcgahajfaa
open Go.RowKit Go.Mem

/-- an item -/
structure Itm where
  k : Int
  x : Int
  m : Int
  s : ByteArray
  f : Bool
  L : Option Addr
  ln : Nat
  lc : Nat
  zs : List Int
def Itm.cells (i : Itm) : List Value := [.int .i64 i.k, .int .i64 i.x, .int .i64 i.m, .string i.s, .bool i.f, .slice i.L i.ln i.lc]
def Itm.val (i : Itm) : Value := itVal i.k i.x i.m i.s i.f i.L i.ln i.lc
def Itm.enc (i : Itm) : List UInt8 := encIt i.k i.x i.s i.f i.zs
def Itm.Ok (W : World) (i : Itm) : Prop := ItOk W i.k i.x i.m i.s i.L i.ln i.lc i.zs ∧ i.s.size + i.lc ≤ 1048576
theorem ItOk.keep {W W' : World} {k n m : Int} {s : ByteArray} {L : Option Addr} {ln lc : Nat} {zs : List Int} (h : ItOk W k n m s L ln lc zs) (hb : Below W.heap.size W W') : ItOk W' k n m s L ln lc zs :=
  ⟨h.k, h.n, h.m, h.len, h.le, h.cap, h.sl.below hb, h.ints⟩

theorem putAny_calls (A : Option Addr) (n cap : Nat) (bs : List UInt8) (i : Itm) (w : World) (hl : bs.length = n) (hs : Sl w A (bs.map B8)) (hn : n ≤ 35184372088832) (hi : i.Ok w) :
    Calls Try.prog 24 #[.slice A n cap, i.val] w (PutB w (bs ++ i.enc)) := by
  obtain ⟨k, x, m, s, f, L, ln, lc, zs⟩ := i
  obtain ⟨hok, hsm⟩ := hi
  simp only at hok hsm
  have hx : -9223372036854775808 ≤ x ∧ x ≤ 9223372036854775807 := hok.n
  have hlc := hok.le
  show Calls Try.prog 24 #[.slice A n cap, itVal k x m s f L ln lc] w (PutB w (bs ++ encIt k x s f zs))
  unfold encIt
  by_cases h14 : k = 1 ∨ k = 4
  · rw [if_pos h14]
    exact putNum_calls A n cap bs k x m s f L ln lc w hl hx hs (by omega) h14
  rw [if_neg h14]
  by_cases h2 : k = 2
  · rw [if_pos h2]
    exact putText_calls A n cap bs k x m s f L ln lc w hl hs (by omega) h2
  rw [if_neg h2]
  by_cases h3 : k = 3
  · rw [if_pos h3]
    exact putFlag_calls A n cap bs k x m s f L ln lc w hl hs (by omega) h3
  rw [if_neg h3]
  by_cases h5 : k = 5
  · rw [if_pos h5]
    subst h5
    rw [hok.len]
    exact putList_calls A n cap bs x m s f L ln lc zs w hl hs hok.len hok.ints hok.sl (by omega)
  · rw [if_neg h5, List.append_nil]
    exact putNone_calls A n cap bs k x m s f L ln lc w hl hs (by omega) ⟨by omega, h2, h3, by omega, h5⟩

theorem Itm.enc_len {w : World} {i : Itm} (hi : i.Ok w) : i.enc.length ≤ 20000000 := by
  obtain ⟨k, x, m, s, f, L, ln, lc, zs⟩ := i
  obtain ⟨hok, hsm⟩ := hi
  simp only at hok hsm
  show (encIt k x s f zs).length ≤ _
  have hx : -9223372036854775808 ≤ x ∧ x ≤ 9223372036854775807 := hok.n
  have hlc := hok.le
  have hzl := hok.len
  unfold encIt
  split
  · rw [Wire.num_length]; have := Wire.nb_le x.toNat (by omega); omega
  split
  · have h1 : s.data.toList.length = s.size := Array.length_toList
    rw [List.length_append, Wire.num_length]; have := Wire.nb_le s.size (by omega); omega
  split
  · rw [Wire.num_length]; have := Wire.nb_le (if f then 1 else 0) (by cases f <;> decide); omega
  split
  · have h1 := encs_le zs hok.ints
    rw [List.length_append, Wire.num_length]; have := Wire.nb_le zs.length (by omega); omega
  · exact Nat.zero_le _

/-- a byte of the call's own turned -/
theorem OwnB.setByte {w : World} {B : Nat} {t : TypeId} {g n cap : Nat} {pre : List Value} (h : OwnB w B t 1 (some ⟨g, 0, none⟩) n cap pre) (k : Nat) (hk : k < pre.length) (v : Value) : OwnB (w.setCell ⟨g, k, none⟩ v) B t 1 (some ⟨g, 0, none⟩) n cap (pre.set k v) := by
  obtain ⟨h1, h2, h3⟩ := h
  refine ⟨by rw [List.length_set]; exact h1, h2, ?_⟩
  rcases h3 with ⟨h3, _⟩ | ⟨g', sp, hg', hB, hb, hc⟩
  · cases h3
  · injection hg' with e
    injection e with e
    subst e
    refine .inr ⟨g, sp, rfl, hB, ?_, hc⟩
    have := hb.set_ k v
    rw [List.set_append_left _ _ hk] at this
    exact this
theorem OwnB.shape {w : World} {B : Nat} {t : TypeId} {D : Option Addr} {n cap : Nat} {pre : List Value} (h : OwnB w B t 1 D n cap pre) (hp : 0 < pre.length) : ∃ g, D = some ⟨g, 0, none⟩ ∧ B ≤ g ∧ ∀ k, k < pre.length → w.cell? ⟨g, k, none⟩ = pre[k]? ∧ w.frozen? ⟨g, k, none⟩ = false := by
  obtain ⟨h1, h2, h3⟩ := h
  rcases h3 with ⟨_, h3, _⟩ | ⟨g, sp, hg, hB, hb, hc⟩
  · subst h3; omega
  · exact ⟨g, hg, hB, fun k hk => ⟨by rw [hb.cell, List.getElem?_append_left hk], hb.frozen k⟩⟩
end Go.Proofs.Ytjmiejcgahajfaa
