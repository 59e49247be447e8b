/-
  The contract of spoorlaw4.step, call by call.
-/
import Derived.Test.YtepmnhlfjidhjaaTabStep
namespace Go.Proofs.Ytepmnhlfjidhjaa
open Go.RowKit Go.Mem Go.Proofs

theorem keepW3 {w w' : World} {a : Addr} {v : Value} (hb : Below w.heap.size w w') (h : w.cell? a = some v) : w'.cell? a = some v := (hb.cell (lt_of_cell h)).trans h
theorem kp_blk {w w' : World} {B p q : Nat} {DK DV : Option Addr} {ks vs : List Int} {t : TypeId} {cs : List Value} (h : TbII w B p DK DV ks vs) (kp : Kp w w' p DK DV) (hb : Blk w q t cs) (h1 : t ≠ 161) (h2 : 3 ≠ t) : Blk w' q t cs := by
  obtain ⟨_, _, h, _⟩ := h
  exact (kp q hb.lt (hb.ne_ h.b h1) (own_ne_blk h.k hb h2) (own_ne_blk h.v hb h2)).trans hb
theorem kp_own {w w' : World} {B B2 p k c sz : Nat} {DK DV D : Option Addr} {ks vs : List Int} {t : TypeId} {xs : List Value} (h : TbII w B p DK DV ks vs) (kp : Kp w w' p DK DV) (ho : OwnB w B2 t sz D k c xs) (h1 : t ≠ 161) (h2 : 3 ≠ t) : OwnB w' B2 t sz D k c xs := by
  obtain ⟨a, b, h3⟩ := ho
  refine ⟨a, b, ?_⟩
  rcases h3 with h3 | ⟨g, sp, hd, hg, hb, hc⟩
  · exact .inl h3
  · exact .inr ⟨g, sp, hd, hg, kp_blk h kp hb h1 h2, hc⟩
theorem rowP {w : World} {D : Option Addr} {ps : List (Int × Int)} {i : Nat} {r : Int × Int} (h : Sl w D (flatP ps)) (hr : ps[i]? = some r) : ∃ b o, D = some ⟨b, o, none⟩ ∧ w.cell? ⟨b, o + i * 2, none⟩ = some (.int .i64 r.1) ∧ w.cell? ⟨b, o + i * 2 + 1, none⟩ = some (.int .i64 r.2) := by
  obtain ⟨b, o, e, h1⟩ := h _ _ (flatP_at ps i r hr).1
  obtain ⟨b2, o2, e2, h2⟩ := h _ _ (flatP_at ps i r hr).2
  subst e
  injection e2 with e2
  injection e2 with e3 e4
  subst e3 e4
  exact ⟨b, o, rfl, h1, h2⟩
/-- a table and the rows beside it -/
structure StP (w : World) (B p : Nat) (DK DV D : Option Addr) (c : Nat) (ps : List (Int × Int)) : Prop where
  t : TbII w B p DK DV (ps.map (·.1)) (ps.map (·.2))
  r : Tab.Rising ltI (ps.map (·.1))
  o : OwnB w B 104 2 D ps.length c (flatP ps)
theorem StP.below {w w' : World} {B p c : Nat} {DK DV D : Option Addr} {ps : List (Int × Int)} (h : StP w B p DK DV D c ps) (hb : Below w.heap.size w w') : StP w' B p DK DV D c ps := ⟨h.t.below hb, h.r, h.o.below hb⟩
theorem StP.drewN {w : World} {B p c : Nat} {DK DV D : Option Addr} {ps : List (Int × Int)} (h : StP w B p DK DV D c ps) (q : Nat) : StP (w.drewN q) B p DK DV D c ps := ⟨h.t.drewN q, h.r, h.o.drewN q⟩
def StEnds (w : World) (B p m : Nat) (e : Ending) (w' : World) : Prop := ∃ D n c DK DV ps, e = .returned (.tuple #[.slice D n c, .bool true]) ∧ ps.length = n ∧ StP w' B p DK DV D c ps ∧ ps.length ≤ m ∧ Below B w w'

set_option maxRecDepth 100000 in
set_option maxHeartbeats 3200000 in
theorem step_getIn (B p m c i : Nat) (DK DV D : Option Addr) (ps : List (Int × Int)) (k v : Int) (w : World) (h : StP w B p DK DV D c ps) (hat : Tab.At ltI (ps.map (·.1)) k i) (hm : ps.length ≤ m) (hm2 : m ≤ 1000) (hB : B ≤ w.heap.size) (hf : (ps.map (·.1))[i]? = some k) :
    Calls Try.prog 63 #[.pointer (some ⟨p, 0, none⟩), .slice D ps.length c, .agg #[.int .i64 2, .int .i64 k, .int .i64 v]] w (StEnds w B p (m + 1)) := by
  have hal : Below w.heap.size w (w.alloc (.cells #[.int .i64 2, .int .i64 k, .int .i64 v] 101)) := (Below.refl _ _).alloc (Nat.le_refl _) _
  have HBq := Lib.hid (Blk.new w 101 #[.int .i64 2, .int .i64 k, .int .i64 v])
  have HH := Lib.hid (h.below hal)
  have HB := Lib.hid (hal.mono hB)
  have HP := Lib.hid (place_calls D ps.length c ps k i (w.alloc (.cells #[.int .i64 2, .int .i64 k, .int .i64 v] 101)) rfl (by omega) HH.out.o.sl hat)
  have hil : i ≤ ps.length := by simpa using hat.1
  have HAT := Lib.hid hat
  have hin := decide_eq_true hf
  rw [hin] at HP
  have hlt : i < ps.length := by have := (List.getElem?_eq_some_iff.1 hf).1; simpa using this

  clear hal h hat
  go_enter Try.func63, Try.ntmps63
  go_wp2_with fail
  refine HP.out.mono ?_
  rintro e w2 ⟨rfl, q2, hq2⟩
  have H2 : Hid (StP w2 B p DK DV D c ps) := (show StP _ _ _ _ _ _ _ _ from by rw [hq2]; exact HH.out.drewN _)
  have HB2 : Hid (Below B w w2) := (show Below _ _ _ from by rw [hq2]; exact below_drewN HB.out _)
  have HQ2 : Hid (Blk w2 w.heap.size 101 [.int .i64 2, .int .i64 k, .int .i64 v]) := (show Blk _ _ _ _ from by rw [hq2]; exact HBq.out)
  have hB2 : B ≤ w2.heap.size := Nat.le_trans hB HB2.out.size
  clear HP HH HB HBq hq2 hB
  generalize w.heap.size = q at HQ2 ⊢
  have k0 := HQ2.out.cell 0
  have k1 := HQ2.out.cell 1
  have k2 := HQ2.out.cell 2
  simp only [List.getElem?_cons_zero, List.getElem?_cons_succ] at k0 k1 k2
  have HG := Lib.hid (getII_calls B p DK DV (ps.map (·.1)) (ps.map (·.2)) k i w2 H2.out.t H2.out.r HAT.out (by simp; omega))
  rw [if_pos hf, hin] at HG
  obtain ⟨r, hr⟩ : ∃ r, ps[i]? = some r := ⟨_, List.getElem?_eq_getElem hlt⟩
  have hgd : (ps.map (·.2)).getD i 0 = r.2 := by simp [List.getD, hr]
  rw [hgd] at HG
  obtain ⟨gz, oz, rfl, _, hc⟩ := rowP H2.out.o.sl hr
  have i0 : (0 : Int) ≤ (i : Int) := Int.natCast_nonneg _
  have i1 : (i : Int) < (ps.length : Int) := by omega
  have e1 : (r.2 == r.2) = true := by simp
  clear hf hin hgd HAT
  go_wp2_with fail
  refine HG.out.mono ?_
  rintro e w3 ⟨rfl, q3, hq3⟩
  have HFin : Hid (∀ q, StEnds w B p (m + 1) (.returned (.tuple #[.slice (some ⟨gz, oz, none⟩) ps.length c, .bool true])) (w3.drewN q)) := (show ∀ q, StEnds _ _ _ _ _ _ from fun q => ⟨_, _, c, DK, DV, ps, rfl, rfl, by rw [hq3]; exact (H2.out.drewN _).drewN _, by omega, by rw [hq3]; exact below_drewN (below_drewN HB2.out _) _⟩)
  have k0' : w3.cell? ⟨q, 0, none⟩ = some (.int .i64 2) := by rw [hq3]; exact k0
  have k1' : w3.cell? ⟨q, 1, none⟩ = some (.int .i64 k) := by rw [hq3]; exact k1
  have hc' : w3.cell? ⟨gz, oz + i * 2 + 1, none⟩ = some (.int .i64 r.2) := by rw [hq3]; exact hc
  clear HG k0 k1 k2 H2 HQ2 hq3 hc hr
  go_wp2_with fail
  go_ret2
  exact HFin.out 0

set_option maxRecDepth 100000 in
set_option maxHeartbeats 3200000 in
theorem step_getOut (B p m c i : Nat) (DK DV D : Option Addr) (ps : List (Int × Int)) (k v : Int) (w : World) (h : StP w B p DK DV D c ps) (hat : Tab.At ltI (ps.map (·.1)) k i) (hm : ps.length ≤ m) (hm2 : m ≤ 1000) (hB : B ≤ w.heap.size) (hf : (ps.map (·.1))[i]? ≠ some k) :
    Calls Try.prog 63 #[.pointer (some ⟨p, 0, none⟩), .slice D ps.length c, .agg #[.int .i64 2, .int .i64 k, .int .i64 v]] w (StEnds w B p (m + 1)) := by
  have hal : Below w.heap.size w (w.alloc (.cells #[.int .i64 2, .int .i64 k, .int .i64 v] 101)) := (Below.refl _ _).alloc (Nat.le_refl _) _
  have HBq := Lib.hid (Blk.new w 101 #[.int .i64 2, .int .i64 k, .int .i64 v])
  have HH := Lib.hid (h.below hal)
  have HB := Lib.hid (hal.mono hB)
  have HP := Lib.hid (place_calls D ps.length c ps k i (w.alloc (.cells #[.int .i64 2, .int .i64 k, .int .i64 v] 101)) rfl (by omega) HH.out.o.sl hat)
  have hil : i ≤ ps.length := by simpa using hat.1
  have HAT := Lib.hid hat
  have hin := decide_eq_false hf
  rw [hin] at HP

  clear hal h hat
  go_enter Try.func63, Try.ntmps63
  go_wp2_with fail
  refine HP.out.mono ?_
  rintro e w2 ⟨rfl, q2, hq2⟩
  have H2 : Hid (StP w2 B p DK DV D c ps) := (show StP _ _ _ _ _ _ _ _ from by rw [hq2]; exact HH.out.drewN _)
  have HB2 : Hid (Below B w w2) := (show Below _ _ _ from by rw [hq2]; exact below_drewN HB.out _)
  have HQ2 : Hid (Blk w2 w.heap.size 101 [.int .i64 2, .int .i64 k, .int .i64 v]) := (show Blk _ _ _ _ from by rw [hq2]; exact HBq.out)
  have hB2 : B ≤ w2.heap.size := Nat.le_trans hB HB2.out.size
  clear HP HH HB HBq hq2 hB
  generalize w.heap.size = q at HQ2 ⊢
  have k0 := HQ2.out.cell 0
  have k1 := HQ2.out.cell 1
  have k2 := HQ2.out.cell 2
  simp only [List.getElem?_cons_zero, List.getElem?_cons_succ] at k0 k1 k2
  have HG := Lib.hid (getII_calls B p DK DV (ps.map (·.1)) (ps.map (·.2)) k i w2 H2.out.t H2.out.r HAT.out (by simp; omega))
  rw [if_neg hf, hin] at HG
  clear hf hin HAT
  go_wp2_with fail
  refine HG.out.mono ?_
  rintro e w3 ⟨rfl, q3, hq3⟩
  have HFin : Hid (∀ q, StEnds w B p (m + 1) (.returned (.tuple #[.slice D ps.length c, .bool true])) (w3.drewN q)) := (show ∀ q, StEnds _ _ _ _ _ _ from fun q => ⟨_, _, c, DK, DV, ps, rfl, rfl, by rw [hq3]; exact (H2.out.drewN _).drewN _, by omega, by rw [hq3]; exact below_drewN (below_drewN HB2.out _) _⟩)
  have k0' : w3.cell? ⟨q, 0, none⟩ = some (.int .i64 2) := by rw [hq3]; exact k0
  have k1' : w3.cell? ⟨q, 1, none⟩ = some (.int .i64 k) := by rw [hq3]; exact k1
  clear HG k0 k1 k2 H2 HQ2 hq3
  go_wp2_with fail
  go_ret2
  exact HFin.out 0

set_option maxRecDepth 100000 in
set_option maxHeartbeats 3200000 in
theorem step_delOut (B p m c i : Nat) (DK DV D : Option Addr) (ps : List (Int × Int)) (k v : Int) (w : World) (h : StP w B p DK DV D c ps) (hat : Tab.At ltI (ps.map (·.1)) k i) (hm : ps.length ≤ m) (hm2 : m ≤ 1000) (hB : B ≤ w.heap.size) (hf : (ps.map (·.1))[i]? ≠ some k) :
    Calls Try.prog 63 #[.pointer (some ⟨p, 0, none⟩), .slice D ps.length c, .agg #[.int .i64 3, .int .i64 k, .int .i64 v]] w (StEnds w B p (m + 1)) := by
  have hal : Below w.heap.size w (w.alloc (.cells #[.int .i64 3, .int .i64 k, .int .i64 v] 101)) := (Below.refl _ _).alloc (Nat.le_refl _) _
  have HBq := Lib.hid (Blk.new w 101 #[.int .i64 3, .int .i64 k, .int .i64 v])
  have HH := Lib.hid (h.below hal)
  have HB := Lib.hid (hal.mono hB)
  have HP := Lib.hid (place_calls D ps.length c ps k i (w.alloc (.cells #[.int .i64 3, .int .i64 k, .int .i64 v] 101)) rfl (by omega) HH.out.o.sl hat)
  have hil : i ≤ ps.length := by simpa using hat.1
  have HAT := Lib.hid hat
  have hin := decide_eq_false hf
  rw [hin] at HP

  clear hal h hat
  go_enter Try.func63, Try.ntmps63
  go_wp2_with fail
  refine HP.out.mono ?_
  rintro e w2 ⟨rfl, q2, hq2⟩
  have H2 : Hid (StP w2 B p DK DV D c ps) := (show StP _ _ _ _ _ _ _ _ from by rw [hq2]; exact HH.out.drewN _)
  have HB2 : Hid (Below B w w2) := (show Below _ _ _ from by rw [hq2]; exact below_drewN HB.out _)
  have HQ2 : Hid (Blk w2 w.heap.size 101 [.int .i64 3, .int .i64 k, .int .i64 v]) := (show Blk _ _ _ _ from by rw [hq2]; exact HBq.out)
  have hB2 : B ≤ w2.heap.size := Nat.le_trans hB HB2.out.size
  clear HP HH HB HBq hq2 hB
  generalize w.heap.size = q at HQ2 ⊢
  have k0 := HQ2.out.cell 0
  have k1 := HQ2.out.cell 1
  have k2 := HQ2.out.cell 2
  simp only [List.getElem?_cons_zero, List.getElem?_cons_succ] at k0 k1 k2
  have HG := Lib.hid (delII_no B p DK DV (ps.map (·.1)) (ps.map (·.2)) k i w2 H2.out.t H2.out.r HAT.out (by simp; omega) hf)
  clear hf hin HAT
  go_wp2_with fail
  refine HG.out.mono ?_
  rintro e w3 ⟨rfl, q3, hq3⟩
  have HFin : Hid (∀ q, StEnds w B p (m + 1) (.returned (.tuple #[.slice D ps.length c, .bool true])) (w3.drewN q)) := (show ∀ q, StEnds _ _ _ _ _ _ from fun q => ⟨_, _, c, DK, DV, ps, rfl, rfl, by rw [hq3]; exact (H2.out.drewN _).drewN _, by omega, by rw [hq3]; exact below_drewN (below_drewN HB2.out _) _⟩)
  have k0' : w3.cell? ⟨q, 0, none⟩ = some (.int .i64 3) := by rw [hq3]; exact k0
  have k1' : w3.cell? ⟨q, 1, none⟩ = some (.int .i64 k) := by rw [hq3]; exact k1
  clear HG k0 k1 k2 H2 HQ2 hq3
  go_wp2_with fail
  go_ret2
  exact HFin.out 0

set_option maxRecDepth 100000 in
set_option maxHeartbeats 3200000 in
theorem step_least (B p m c i : Nat) (DK DV D : Option Addr) (ps : List (Int × Int)) (k v : Int) (w : World) (h : StP w B p DK DV D c ps) (hat : Tab.At ltI (ps.map (·.1)) k i) (hm : ps.length ≤ m) (hm2 : m ≤ 1000) (hB : B ≤ w.heap.size) :
    Calls Try.prog 63 #[.pointer (some ⟨p, 0, none⟩), .slice D ps.length c, .agg #[.int .i64 5, .int .i64 k, .int .i64 v]] w (StEnds w B p (m + 1)) := by
  have hal : Below w.heap.size w (w.alloc (.cells #[.int .i64 5, .int .i64 k, .int .i64 v] 101)) := (Below.refl _ _).alloc (Nat.le_refl _) _
  have HBq := Lib.hid (Blk.new w 101 #[.int .i64 5, .int .i64 k, .int .i64 v])
  have HH := Lib.hid (h.below hal)
  have HB := Lib.hid (hal.mono hB)
  have HP := Lib.hid (place_calls D ps.length c ps k i (w.alloc (.cells #[.int .i64 5, .int .i64 k, .int .i64 v] 101)) rfl (by omega) HH.out.o.sl hat)
  have hil : i ≤ ps.length := by simpa using hat.1
  have HAT := Lib.hid hat
  generalize decide ((ps.map (·.1))[i]? = some k) = b at HP

  clear hal h hat
  go_enter Try.func63, Try.ntmps63
  go_wp2_with fail
  refine HP.out.mono ?_
  rintro e w2 ⟨rfl, q2, hq2⟩
  have H2 : Hid (StP w2 B p DK DV D c ps) := (show StP _ _ _ _ _ _ _ _ from by rw [hq2]; exact HH.out.drewN _)
  have HB2 : Hid (Below B w w2) := (show Below _ _ _ from by rw [hq2]; exact below_drewN HB.out _)
  have HQ2 : Hid (Blk w2 w.heap.size 101 [.int .i64 5, .int .i64 k, .int .i64 v]) := (show Blk _ _ _ _ from by rw [hq2]; exact HBq.out)
  have hB2 : B ≤ w2.heap.size := Nat.le_trans hB HB2.out.size
  clear HP HH HB HBq hq2 hB
  generalize w.heap.size = q at HQ2 ⊢
  have k0 := HQ2.out.cell 0
  have k1 := HQ2.out.cell 1
  have k2 := HQ2.out.cell 2
  simp only [List.getElem?_cons_zero, List.getElem?_cons_succ] at k0 k1 k2
  have HG := Lib.hid (leastII_calls B p DK DV (ps.map (·.1)) (ps.map (·.2)) k i w2 H2.out.t H2.out.r HAT.out (by simp; omega))
  have e1 : ((i : Int) == (i : Int)) = true := by simp
  clear HAT
  go_wp2_with fail
  refine HG.out.mono ?_
  rintro e w3 ⟨rfl, q3, hq3⟩
  have HFin : Hid (∀ q, StEnds w B p (m + 1) (.returned (.tuple #[.slice D ps.length c, .bool true])) (w3.drewN q)) := (show ∀ q, StEnds _ _ _ _ _ _ from fun q => ⟨_, _, c, DK, DV, ps, rfl, rfl, by rw [hq3]; exact (H2.out.drewN _).drewN _, by omega, by rw [hq3]; exact below_drewN (below_drewN HB2.out _) _⟩)
  have k0' : w3.cell? ⟨q, 0, none⟩ = some (.int .i64 5) := by rw [hq3]; exact k0
  have k1' : w3.cell? ⟨q, 1, none⟩ = some (.int .i64 k) := by rw [hq3]; exact k1
  clear HG k0 k1 k2 H2 HQ2 hq3
  go_wp2_with fail
  go_ret2
  exact HFin.out 0

set_option maxRecDepth 100000 in
set_option maxHeartbeats 3200000 in
theorem step_other (B p m c i : Nat) (DK DV D : Option Addr) (ps : List (Int × Int)) (d k v : Int) (w : World) (h : StP w B p DK DV D c ps) (hat : Tab.At ltI (ps.map (·.1)) k i) (hm : ps.length ≤ m) (hm2 : m ≤ 1000) (hB : B ≤ w.heap.size) (hd1 : d ≠ 1) (hd2 : d ≠ 2) (hd3 : d ≠ 3) (hd4 : d ≠ 4) (hd5 : d ≠ 5) :
    Calls Try.prog 63 #[.pointer (some ⟨p, 0, none⟩), .slice D ps.length c, .agg #[.int .i64 d, .int .i64 k, .int .i64 v]] w (StEnds w B p (m + 1)) := by
  have hal : Below w.heap.size w (w.alloc (.cells #[.int .i64 d, .int .i64 k, .int .i64 v] 101)) := (Below.refl _ _).alloc (Nat.le_refl _) _
  have HBq := Lib.hid (Blk.new w 101 #[.int .i64 d, .int .i64 k, .int .i64 v])
  have HH := Lib.hid (h.below hal)
  have HB := Lib.hid (hal.mono hB)
  have HP := Lib.hid (place_calls D ps.length c ps k i (w.alloc (.cells #[.int .i64 d, .int .i64 k, .int .i64 v] 101)) rfl (by omega) HH.out.o.sl hat)
  have hil : i ≤ ps.length := by simpa using hat.1
  have HAT := Lib.hid hat
  generalize decide ((ps.map (·.1))[i]? = some k) = b at HP
  have e1 : (d == 1) = false := beq_eq_false_iff_ne.2 hd1
  have e2 : (d == 2) = false := beq_eq_false_iff_ne.2 hd2
  have e3 : (d == 3) = false := beq_eq_false_iff_ne.2 hd3
  have e4 : (d == 4) = false := beq_eq_false_iff_ne.2 hd4
  have e5 : (d == 5) = false := beq_eq_false_iff_ne.2 hd5
  clear hd1 hd2 hd3 hd4 hd5

  clear hal h hat
  go_enter Try.func63, Try.ntmps63
  go_wp2_with fail
  refine HP.out.mono ?_
  rintro e w2 ⟨rfl, q2, hq2⟩
  have H2 : Hid (StP w2 B p DK DV D c ps) := (show StP _ _ _ _ _ _ _ _ from by rw [hq2]; exact HH.out.drewN _)
  have HB2 : Hid (Below B w w2) := (show Below _ _ _ from by rw [hq2]; exact below_drewN HB.out _)
  have HQ2 : Hid (Blk w2 w.heap.size 101 [.int .i64 d, .int .i64 k, .int .i64 v]) := (show Blk _ _ _ _ from by rw [hq2]; exact HBq.out)
  have hB2 : B ≤ w2.heap.size := Nat.le_trans hB HB2.out.size
  clear HP HH HB HBq hq2 hB
  generalize w.heap.size = q at HQ2 ⊢
  have k0 := HQ2.out.cell 0
  have k1 := HQ2.out.cell 1
  have k2 := HQ2.out.cell 2
  simp only [List.getElem?_cons_zero, List.getElem?_cons_succ] at k0 k1 k2
  have HFin : Hid (StEnds w B p (m + 1) (.returned (.tuple #[.slice D ps.length c, .bool true])) w2) := (show StEnds _ _ _ _ _ _ from ⟨_, _, c, DK, DV, ps, rfl, rfl, H2.out, by omega, HB2.out⟩)
  clear HAT H2 HQ2
  go_wp2_with fail
  go_ret2
  exact HFin.out

set_option maxRecDepth 100000 in
set_option maxHeartbeats 3200000 in
theorem step_atIn (B p m c i : Nat) (DK DV D : Option Addr) (ps : List (Int × Int)) (j : Nat) (v : Int) (w : World) (h : StP w B p DK DV D c ps) (hat : Tab.At ltI (ps.map (·.1)) (j : Int) i) (hm : ps.length ≤ m) (hm2 : m ≤ 1000) (hB : B ≤ w.heap.size) (hj : j < ps.length) :
    Calls Try.prog 63 #[.pointer (some ⟨p, 0, none⟩), .slice D ps.length c, .agg #[.int .i64 4, .int .i64 (j : Int), .int .i64 v]] w (StEnds w B p (m + 1)) := by
  have hal : Below w.heap.size w (w.alloc (.cells #[.int .i64 4, .int .i64 (j : Int), .int .i64 v] 101)) := (Below.refl _ _).alloc (Nat.le_refl _) _
  have HBq := Lib.hid (Blk.new w 101 #[.int .i64 4, .int .i64 (j : Int), .int .i64 v])
  have HH := Lib.hid (h.below hal)
  have HB := Lib.hid (hal.mono hB)
  have HP := Lib.hid (place_calls D ps.length c ps (j : Int) i (w.alloc (.cells #[.int .i64 4, .int .i64 (j : Int), .int .i64 v] 101)) rfl (by omega) HH.out.o.sl hat)
  have hil : i ≤ ps.length := by simpa using hat.1
  have HAT := Lib.hid hat
  generalize decide ((ps.map (·.1))[i]? = some (j : Int)) = b at HP

  clear hal h hat
  go_enter Try.func63, Try.ntmps63
  go_wp2_with fail
  refine HP.out.mono ?_
  rintro e w2 ⟨rfl, q2, hq2⟩
  have H2 : Hid (StP w2 B p DK DV D c ps) := (show StP _ _ _ _ _ _ _ _ from by rw [hq2]; exact HH.out.drewN _)
  have HB2 : Hid (Below B w w2) := (show Below _ _ _ from by rw [hq2]; exact below_drewN HB.out _)
  have HQ2 : Hid (Blk w2 w.heap.size 101 [.int .i64 4, .int .i64 (j : Int), .int .i64 v]) := (show Blk _ _ _ _ from by rw [hq2]; exact HBq.out)
  have hB2 : B ≤ w2.heap.size := Nat.le_trans hB HB2.out.size
  clear HP HH HB HBq hq2 hB
  generalize w.heap.size = q at HQ2 ⊢
  have k0 := HQ2.out.cell 0
  have k1 := HQ2.out.cell 1
  have k2 := HQ2.out.cell 2
  simp only [List.getElem?_cons_zero, List.getElem?_cons_succ] at k0 k1 k2
  obtain ⟨r, hr⟩ : ∃ r, ps[j]? = some r := ⟨_, List.getElem?_eq_getElem hj⟩
  have HG := Lib.hid (atII_in B p DK DV (ps.map (·.1)) (ps.map (·.2)) j r.1 r.2 w2 H2.out.t (by simp [hr]) (by simp [hr]))
  obtain ⟨gz, oz, rfl, hc, hd⟩ := rowP H2.out.o.sl hr
  have i0 : (0 : Int) ≤ (j : Int) := Int.natCast_nonneg _
  have i1 : (j : Int) < (ps.length : Int) := by omega
  have d1 : decide ((j : Int) < 0) = false := decide_eq_false (by omega)
  have d2 : decide ((ps.length : Int) ≤ (j : Int)) = false := decide_eq_false (by omega)
  have e1 : (r.1 == r.1) = true := by simp
  have e2 : (r.2 == r.2) = true := by simp
  clear HAT
  go_wp2_with fail
  refine HG.out.mono ?_
  rintro e w3 ⟨rfl, q3, hq3⟩
  have HFin : Hid (∀ q, StEnds w B p (m + 1) (.returned (.tuple #[.slice (some ⟨gz, oz, none⟩) ps.length c, .bool true])) (w3.drewN q)) := (show ∀ q, StEnds _ _ _ _ _ _ from fun q => ⟨_, _, c, DK, DV, ps, rfl, rfl, by rw [hq3]; exact (H2.out.drewN _).drewN _, by omega, by rw [hq3]; exact below_drewN (below_drewN HB2.out _) _⟩)
  have k0' : w3.cell? ⟨q, 0, none⟩ = some (.int .i64 4) := by rw [hq3]; exact k0
  have k1' : w3.cell? ⟨q, 1, none⟩ = some (.int .i64 (j : Int)) := by rw [hq3]; exact k1
  have hc' : w3.cell? ⟨gz, oz + j * 2, none⟩ = some (.int .i64 r.1) := by rw [hq3]; exact hc
  have hd' : w3.cell? ⟨gz, oz + j * 2 + 1, none⟩ = some (.int .i64 r.2) := by rw [hq3]; exact hd
  clear HG k0 k1 k2 H2 HQ2 hq3 hc hd hr
  go_wp2_with fail
  first | go_big_quiet (fail) | skip
  go_wp2_with fail
  go_ret2
  first | exact HFin.out 0 | exact HFin.out _

set_option maxRecDepth 100000 in
set_option maxHeartbeats 3200000 in
theorem step_atNeg (B p m c i : Nat) (DK DV D : Option Addr) (ps : List (Int × Int)) (k v : Int) (w : World) (h : StP w B p DK DV D c ps) (hat : Tab.At ltI (ps.map (·.1)) k i) (hm : ps.length ≤ m) (hm2 : m ≤ 1000) (hB : B ≤ w.heap.size) (hk : k < 0) :
    Calls Try.prog 63 #[.pointer (some ⟨p, 0, none⟩), .slice D ps.length c, .agg #[.int .i64 4, .int .i64 k, .int .i64 v]] w (StEnds w B p (m + 1)) := by
  have hal : Below w.heap.size w (w.alloc (.cells #[.int .i64 4, .int .i64 k, .int .i64 v] 101)) := (Below.refl _ _).alloc (Nat.le_refl _) _
  have HBq := Lib.hid (Blk.new w 101 #[.int .i64 4, .int .i64 k, .int .i64 v])
  have HH := Lib.hid (h.below hal)
  have HB := Lib.hid (hal.mono hB)
  have HP := Lib.hid (place_calls D ps.length c ps k i (w.alloc (.cells #[.int .i64 4, .int .i64 k, .int .i64 v] 101)) rfl (by omega) HH.out.o.sl hat)
  have hil : i ≤ ps.length := by simpa using hat.1
  have HAT := Lib.hid hat
  generalize decide ((ps.map (·.1))[i]? = some k) = b at HP

  clear hal h hat
  go_enter Try.func63, Try.ntmps63
  go_wp2_with fail
  refine HP.out.mono ?_
  rintro e w2 ⟨rfl, q2, hq2⟩
  have H2 : Hid (StP w2 B p DK DV D c ps) := (show StP _ _ _ _ _ _ _ _ from by rw [hq2]; exact HH.out.drewN _)
  have HB2 : Hid (Below B w w2) := (show Below _ _ _ from by rw [hq2]; exact below_drewN HB.out _)
  have HQ2 : Hid (Blk w2 w.heap.size 101 [.int .i64 4, .int .i64 k, .int .i64 v]) := (show Blk _ _ _ _ from by rw [hq2]; exact HBq.out)
  have hB2 : B ≤ w2.heap.size := Nat.le_trans hB HB2.out.size
  clear HP HH HB HBq hq2 hB
  generalize w.heap.size = q at HQ2 ⊢
  have k0 := HQ2.out.cell 0
  have k1 := HQ2.out.cell 1
  have k2 := HQ2.out.cell 2
  simp only [List.getElem?_cons_zero, List.getElem?_cons_succ] at k0 k1 k2
  have HG := Lib.hid (atII_out B p DK DV (ps.map (·.1)) (ps.map (·.2)) k w2 H2.out.t (by simp; omega))
  have d1 : decide (k < 0) = true := decide_eq_true hk
  clear HAT
  go_wp2_with fail
  refine HG.out.mono ?_
  rintro e w3 ⟨rfl, q3, hq3⟩
  have HFin : Hid (∀ q, StEnds w B p (m + 1) (.returned (.tuple #[.slice D ps.length c, .bool true])) (w3.drewN q)) := (show ∀ q, StEnds _ _ _ _ _ _ from fun q => ⟨_, _, c, DK, DV, ps, rfl, rfl, by rw [hq3]; exact (H2.out.drewN _).drewN _, by omega, by rw [hq3]; exact below_drewN (below_drewN HB2.out _) _⟩)
  have k0' : w3.cell? ⟨q, 0, none⟩ = some (.int .i64 4) := by rw [hq3]; exact k0
  have k1' : w3.cell? ⟨q, 1, none⟩ = some (.int .i64 k) := by rw [hq3]; exact k1
  clear HG k0 k1 k2 H2 HQ2 hq3
  go_wp2_with fail
  go_ret2
  first | exact HFin.out 0 | exact HFin.out _

set_option maxRecDepth 100000 in
set_option maxHeartbeats 3200000 in
theorem step_atBig (B p m c i : Nat) (DK DV D : Option Addr) (ps : List (Int × Int)) (k v : Int) (w : World) (h : StP w B p DK DV D c ps) (hat : Tab.At ltI (ps.map (·.1)) k i) (hm : ps.length ≤ m) (hm2 : m ≤ 1000) (hB : B ≤ w.heap.size) (hk : (ps.length : Int) ≤ k) :
    Calls Try.prog 63 #[.pointer (some ⟨p, 0, none⟩), .slice D ps.length c, .agg #[.int .i64 4, .int .i64 k, .int .i64 v]] w (StEnds w B p (m + 1)) := by
  have hal : Below w.heap.size w (w.alloc (.cells #[.int .i64 4, .int .i64 k, .int .i64 v] 101)) := (Below.refl _ _).alloc (Nat.le_refl _) _
  have HBq := Lib.hid (Blk.new w 101 #[.int .i64 4, .int .i64 k, .int .i64 v])
  have HH := Lib.hid (h.below hal)
  have HB := Lib.hid (hal.mono hB)
  have HP := Lib.hid (place_calls D ps.length c ps k i (w.alloc (.cells #[.int .i64 4, .int .i64 k, .int .i64 v] 101)) rfl (by omega) HH.out.o.sl hat)
  have hil : i ≤ ps.length := by simpa using hat.1
  have HAT := Lib.hid hat
  generalize decide ((ps.map (·.1))[i]? = some k) = b at HP

  clear hal h hat
  go_enter Try.func63, Try.ntmps63
  go_wp2_with fail
  refine HP.out.mono ?_
  rintro e w2 ⟨rfl, q2, hq2⟩
  have H2 : Hid (StP w2 B p DK DV D c ps) := (show StP _ _ _ _ _ _ _ _ from by rw [hq2]; exact HH.out.drewN _)
  have HB2 : Hid (Below B w w2) := (show Below _ _ _ from by rw [hq2]; exact below_drewN HB.out _)
  have HQ2 : Hid (Blk w2 w.heap.size 101 [.int .i64 4, .int .i64 k, .int .i64 v]) := (show Blk _ _ _ _ from by rw [hq2]; exact HBq.out)
  have hB2 : B ≤ w2.heap.size := Nat.le_trans hB HB2.out.size
  clear HP HH HB HBq hq2 hB
  generalize w.heap.size = q at HQ2 ⊢
  have k0 := HQ2.out.cell 0
  have k1 := HQ2.out.cell 1
  have k2 := HQ2.out.cell 2
  simp only [List.getElem?_cons_zero, List.getElem?_cons_succ] at k0 k1 k2
  have HG := Lib.hid (atII_out B p DK DV (ps.map (·.1)) (ps.map (·.2)) k w2 H2.out.t (by simp; omega))
  have d1 : decide (k < 0) = false := decide_eq_false (by omega)
  have d2 : decide ((ps.length : Int) ≤ k) = true := decide_eq_true hk
  clear HAT
  go_wp2_with fail
  refine HG.out.mono ?_
  rintro e w3 ⟨rfl, q3, hq3⟩
  have HFin : Hid (∀ q, StEnds w B p (m + 1) (.returned (.tuple #[.slice D ps.length c, .bool true])) (w3.drewN q)) := (show ∀ q, StEnds _ _ _ _ _ _ from fun q => ⟨_, _, c, DK, DV, ps, rfl, rfl, by rw [hq3]; exact (H2.out.drewN _).drewN _, by omega, by rw [hq3]; exact below_drewN (below_drewN HB2.out _) _⟩)
  have k0' : w3.cell? ⟨q, 0, none⟩ = some (.int .i64 4) := by rw [hq3]; exact k0
  have k1' : w3.cell? ⟨q, 1, none⟩ = some (.int .i64 k) := by rw [hq3]; exact k1
  clear HG k0 k1 k2 H2 HQ2 hq3
  go_wp2_with fail
  go_ret2
  first | exact HFin.out 0 | exact HFin.out _
end Go.Proofs.Ytepmnhlfjidhjaa
