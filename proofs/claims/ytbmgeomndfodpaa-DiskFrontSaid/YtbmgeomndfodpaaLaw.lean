/-
  What every law's proof shares: its arguments read behind the call as before if nothing below the old heap has turned; a slice of bytes that came in, opened.
-/
import Derived.Test.YtbmgeomndfodpaaMem
import Derived.ProofKit
import Derived.OpenShut
import Derived.SizedLaws
import Derived.Deep.DeepHandedRow
import Derived.Deep.Slices
namespace Go.Law
open Go.ChangeShapes Go.WideShapes Go.ChangeAt Go.RowKit Go.Mem

section
variable {H : Type} {enc : TypeId × Value → H} {P : Program} {W W' : World}

theorem trodAll_below (hl : laidOutB P = true) (hb : Below W.heap.size W W') : ∀ {ts : List TypeId} {vs : List Value} {ds : List (DataW H)} {ps : List MemPlace}, (∀ t ∈ ts, P.readableRec t = true ∧ t < P.types.size) →
    DataW.TrodAll enc P W 0 (fun _ => true) true ts vs ds ps → (∀ x ∈ ps, x.block < W.heap.size) → DataW.TrodAll enc P W' 0 (fun b => decide (b < W.heap.size)) true ts vs ds ps := by
  intro ts
  induction ts with
  | nil => intro vs ds ps _ h _; cases vs <;> cases ds <;> exact h
  | cons t ts ih =>
    intro vs ds ps hr h hlt
    cases vs with
    | nil => cases ds <;> exact h
    | cons v vs =>
      cases ds with
      | nil => exact h
      | cons d ds =>
        obtain ⟨p, q, h1, h2, rfl⟩ := h
        obtain ⟨r1, r2⟩ := hr t List.mem_cons_self
        exact ⟨p, q, Below.trod hl r1 r2 h1 hb (fun x hx => hlt x (List.mem_append_left _ hx)), ih (fun t ht => hr t (List.mem_cons_of_mem _ ht)) h2 (fun x hx => hlt x (List.mem_append_right _ hx)), rfl⟩

/-- THE END OF A LAW: it answered true, and nothing below the old heap has turned. -/
theorem post {fn : Func} {s : ChangeSpec} {args : Array Value} {ds : List (DataW H)} {before : List MemPlace} {tb : TypeId} (hW : DataW.Whole enc P fn.params.toList s.vars false W args.toList ds [] before) (hv : s.vars = [])
    (hb : Below W.heap.size W W') (hr : (s.fn H (ds ++ [])).results = [.lit (.bool true)]) (ha : (s.fn H (ds ++ [])).args = ds) (hvs : (s.fn H (ds ++ [])).vars = []) (hrt : fn.resultTypes = #[tb]) (htb : P.underlying tb = some .bool)
    (hl : laidOutB P = true) (hps : (fn.params.toList.all fun t => P.readableRec t && decide (t < P.types.size)) = true) : s.post enc P fn false true false false W args (.bool true) W' := by
  have hlt := hW.lt
  have hW0 := hW
  obtain ⟨p, q, hA, hV, hpq, _, _⟩ := hW0
  rw [hv] at hV
  have hq : q = [] := hV
  subst hq
  have hp' : ∀ t ∈ fn.params.toList, P.readableRec t = true ∧ t < P.types.size := fun t ht => by
    have := List.all_eq_true.1 hps t ht
    rw [Bool.and_eq_true, decide_eq_true_eq] at this
    exact this
  refine ⟨ds, [], before, [], p, [], hW, ?_, ?_, ?_, hb.frame _, fun h => by cases h⟩
  · rw [hr, hrt]
    exact trodAll_cons_mk (shut_bool htb _) trodAll_mk0
  · rw [ha]
    exact trodAll_below hl hb hp' hA (fun x hx => hlt x (by rw [hpq]; exact List.mem_append_left _ hx))
  · rw [hvs, hv]; rfl

theorem bytes_of_trod {t e : TypeId} {fuel : Nat} {cs : List Value} {x : DataW H × List MemPlace} (ht : P.underlying t = some (.slice e)) (he : P.underlying e = some (.int .u8)) (hc : P.cellsOf e = 1)
    (hf : DataW.trod enc P W 0 (fun _ => true) true fuel t cs = some x) :
    ∃ (A : Option Addr) (n cap : Nat) (bs : List UInt8) (el sp : List (DataW H)), cs = [.slice A n cap] ∧ bs.length = n ∧ n ≤ cap ∧ cap ≤ maxLen ∧ Sl W A (bs.map B8) ∧ (x.1 = .nil ∧ cap = 0 ∨ x.1 = .slice el sp ∧ el.length + sp.length = cap ∧ el.length = n) := by
  rcases open_ints ht he hc hf with ⟨hcs, hx⟩ | ⟨a, len, cap, zs, hcs, _, hl, hm, hz, hx, hcell, hwz⟩
  · subst hx
    exact ⟨none, 0, 0, [], [], [], hcs, rfl, Nat.le_refl _, by decide, Sl.nil, .inl ⟨rfl, rfl⟩⟩
  · simp only [if_true] at hz
    subst hx
    refine ⟨some a, len, cap, (zs.take len).map (fun z => UInt8.ofNat z.toNat), _, _, hcs, by simp; omega, hl, hm, ?_, .inr ⟨rfl, by simp [lits]; omega, by simp [lits]; omega⟩⟩
    intro k u hu
    have hk : k < len := by
      have := (List.getElem?_eq_some_iff.1 hu).1
      simp at this; omega
    have hkz : k < zs.length := by omega
    have hc1 := hcell k hkz
    have hspot := World.cell?_spot (a := a.add 0) (hcell 0 (by omega))
    have hw := hwz _ (List.getElem_mem hkz)
    have hr : 0 ≤ zs[k] ∧ zs[k] ≤ 255 := by simpa [Lit.wf, IntKind.min, IntKind.max, IntKind.signed, IntKind.bits] using hw
    have e1 : zs.getD k 0 = zs[k] := by simp [List.getD, hkz]
    have e2 : u = .int .u8 zs[k] := by
      simp [hk, hkz] at hu
      rw [← hu]
      unfold B8
      congr 1
      rw [UInt8.toNat_ofNat']
      omega
    obtain ⟨b, o, s⟩ := a
    have hs : s = none := by
      simpa [Addr.add] using hspot
    subst hs
    rw [Addr.add_lit, e1] at hc1
    exact ⟨b, o, rfl, by rw [e2]; exact hc1⟩

/-- A []byte (or a like type) that came in: its bytes, its bound. -/
theorem open_bytes {t e : TypeId} {v : Value} {d : DataW H} {ps : List MemPlace} {b0 : Nat} (ht : P.underlying t = some (.slice e)) (he : P.underlying e = some (.int .u8)) (hc : P.cellsOf e = 1)
    (hv : Value.okWide P W .any b0 t v) (h : DataW.Trod enc P W 0 (fun _ => true) true t v d ps) :
    ∃ (A : Option Addr) (n cap : Nat) (bs : List UInt8) (el sp : List (DataW H)), v = .slice A n cap ∧ bs.length = n ∧ n ≤ cap ∧ cap ≤ maxLen ∧ Sl W A (bs.map B8) ∧ (d = .nil ∧ cap = 0 ∨ d = .slice el sp ∧ el.length + sp.length = cap ∧ el.length = n) := by
  obtain ⟨a0, len, cap, rfl⟩ := okWide_slice ht hv
  obtain ⟨fuel, hf⟩ := h
  obtain ⟨A, n, cap', bs, el, sp, hcs, h1, h2, h3, h4, h5⟩ := bytes_of_trod ht he hc hf
  simp [Value.cells] at hcs
  obtain ⟨rfl, rfl, rfl⟩ := hcs
  exact ⟨_, _, _, bs, el, sp, rfl, h1, h2, h3, h4, h5⟩

theorem cells_one {w : World} {base : Nat} {a : Addr} {cs : List Value} {v : Value} (h : w.cells? base a 1 = some cs) (hc : cs = [v]) : w.cell? a = some v := by
  obtain ⟨_, hl, hat⟩ := World.cells?_some h
  have := hat 0 (by omega)
  subst hc
  simpa [Addr.add] using this

/-- A [][]byte that came in: its parts. -/
theorem open_byteRows {t e b : TypeId} {v : Value} {d : DataW H} {pl : List MemPlace} {b0 : Nat} (ht : P.underlying t = some (.slice e)) (he : P.underlying e = some (.slice b)) (hb : P.underlying b = some (.int .u8)) (hce : P.cellsOf e = 1) (hcb : P.cellsOf b = 1)
    (hv : Value.okWide P W .any b0 t v) (h : DataW.Trod enc P W 0 (fun _ => true) true t v d pl) :
    ∃ (A : Option Addr) (n cap : Nat) (ps : List Part), v = .slice A n cap ∧ ps.length = n ∧ n ≤ cap ∧ cap ≤ maxLen ∧ Sl W A (ps.map Part.cell) ∧ ∀ p ∈ ps, p.bs.length ≤ maxLen ∧ Sl W p.A (p.bs.map B8) := by
  obtain ⟨a0, len, cap, rfl⟩ := okWide_slice ht hv
  obtain ⟨fuel, hf⟩ := h
  rcases Go.Deep.open_slice ht hf with ⟨hcs, hx⟩ | ⟨a, len', cap', m, n, D, Pl, hcs, _, hl, hm, hmm, hx, hi⟩
  · simp [Value.cells] at hcs
    obtain ⟨rfl, rfl, rfl⟩ := hcs
    exact ⟨none, 0, 0, [], rfl, rfl, Nat.le_refl _, by decide, Sl.nil, by intro p hp; cases hp⟩
  · simp [Value.cells] at hcs
    obtain ⟨rfl, rfl, rfl⟩ := hcs
    simp only [if_true] at hmm
    have hone : ∀ i, i < len → ∃ p : Part, W.cell? (a.add i) = some p.cell ∧ p.bs.length ≤ maxLen ∧ Sl W p.A (p.bs.map B8) := fun i hil => by
      obtain ⟨cs', hcl, htr⟩ := hi i (by omega)
      rw [hce, Nat.mul_one] at hcl
      obtain ⟨A, n1, cap1, bs, el, sp, hcs', h1, h2, h3, h4, _⟩ := bytes_of_trod he hb hcb htr
      exact ⟨⟨A, cap1, bs⟩, by rw [cells_one hcl hcs']; unfold Part.cell; rw [h1], by simp only; omega, h4⟩
    let f : Nat → Part := fun i => if hil : i < len then (hone i hil).choose else ⟨none, 0, []⟩
    have hf' : ∀ i, i < len → W.cell? (a.add i) = some (f i).cell ∧ (f i).bs.length ≤ maxLen ∧ Sl W (f i).A ((f i).bs.map B8) := fun i hil => by
      simp only [f, hil, dif_pos]
      exact (hone i hil).choose_spec
    refine ⟨some a, len, cap, (List.range len).map f, rfl, by simp, hl, hm, ?_, ?_⟩
    · intro k u hu
      have hk : k < len := by
        have := (List.getElem?_eq_some_iff.1 hu).1
        simpa using this
      have hc1 := (hf' k hk).1
      have hspot := World.cell?_spot (a := a.add 0) (hf' 0 (by omega)).1
      have e2 : u = (f k).cell := by
        simp [hk] at hu
        exact hu.symm
      obtain ⟨b, o, s⟩ := a
      have hs : s = none := by
        simpa [Addr.add] using hspot
      subst hs
      rw [Addr.add_lit] at hc1
      exact ⟨b, o, rfl, by rw [e2]; exact hc1⟩
    · intro p hp
      obtain ⟨i, hi, rfl⟩ := List.mem_map.1 hp
      exact (hf' i (List.mem_range.1 hi)).2

/-- the form's own reach, of a slice of one-byte elements -/
theorem bytes_cap {ts : List TypeId} {ds : List (DataW H)} {j : Nat} {t e : TypeId} {d : DataW H} {cap n : Nat} {el sp : List (DataW H)} (hsz : (DataW.weightsEach P ts ds).all (· ≤ reachBytes) = true) (ht : ts[j]? = some t) (hd : ds[j]? = some d)
    (hu : P.underlying t = some (.slice e)) (hb : P.bytesOf e = 1) (h : d = .nil ∧ cap = 0 ∨ d = .slice el sp ∧ el.length + sp.length = cap ∧ el.length = n) : cap ≤ 140737488351232 := by
  rcases h with ⟨_, rfl⟩ | ⟨rfl, h1, _⟩
  · omega
  · have h2 := sized_slice hsz ht hd hu
    rw [hb, Nat.mul_one, h1] at h2
    exact h2

theorem u32_of_wf {c : Int} (h : (Lit.int .u32 c).wf = true) : ∃ b : BitVec 32, c = (b.toNat : Int) := by
  have hr : 0 ≤ c ∧ c ≤ 4294967295 := by simpa [Lit.wf, IntKind.min, IntKind.max, IntKind.signed, IntKind.bits] using h
  exact ⟨BitVec.ofNat 32 c.toNat, by rw [BitVec.toNat_ofNat, Nat.mod_eq_of_lt (by omega)]; omega⟩
theorem i64_of_wf {c : Int} (h : (Lit.int .i64 c).wf = true) : -9223372036854775808 ≤ c ∧ c ≤ 9223372036854775807 := by
  simpa [Lit.wf, IntKind.min, IntKind.max, IntKind.signed, IntKind.bits] using h
end
end Go.Law
