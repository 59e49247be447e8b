/-
  The contract of Copy on a table of numbers.
-/
import Derived.Test.YtepmnhlfjidhjaaTabAny
import Derived.Deep.RegionHeld3
namespace Go.Proofs.Ytepmnhlfjidhjaa
open Go.RowKit Go.Mem Go.Proofs

theorem stepC {a b c : World} (h : Below a.heap.size a b) (k : Below b.heap.size b c) : Below a.heap.size a c := h.trans (k.mono h.size)
def CopyEnds (w : World) (ks vs : List Int) (e : Ending) (w' : World) : Prop := ∃ p' D V, e = .returned (.pointer (some ⟨p', 0, none⟩)) ∧ TbII w' w.heap.size p' D V ks vs ∧ Below w.heap.size w w'
theorem copied {w wb : World} {D1 D2 : Option Addr} {c1 c2 : Nat} {ks vs : List Int} (heq : ks.length = vs.length) (o1 : OwnB wb w.heap.size 3 1 D1 ks.length c1 (ks.map (Value.int .i64))) (o2 : OwnB wb w.heap.size 3 1 D2 vs.length c2 (vs.map (Value.int .i64))) (m1 : c1 ≤ 9223372036854775807) (m2 : c2 ≤ 9223372036854775807)
    (hap : ∀ g, D1 = some ⟨g, 0, none⟩ → D2 ≠ some ⟨g, 0, none⟩) (hb : Below w.heap.size w wb) : CopyEnds w ks vs (.returned (.pointer (some ⟨wb.heap.size, 0, none⟩))) (wb.alloc (.cells #[.slice D1 ks.length c1, .slice D2 vs.length c2] 161)) :=
  ⟨wb.heap.size, D1, D2, rfl, ⟨c1, c2, ⟨Blk.new wb 161 #[.slice D1 ks.length c1, .slice D2 vs.length c2], o1.alloc _, o2.alloc _, m1, m2, hb.size, hap⟩, heq⟩, hb.alloc hb.size _⟩

set_option maxRecDepth 100000 in
set_option maxHeartbeats 3200000 in
theorem copyII_calls (B p : Nat) (DK DV : Option Addr) (ks vs : List Int) (w : World) (h : TbII w B p DK DV ks vs) (hn : ks.length ≤ 1000000) :
    Calls Try.prog 78 #[.pointer (some ⟨p, 0, none⟩)] w (CopyEnds w ks vs) := by
  obtain ⟨cK, cV, h, heq⟩ := h
  have c0 := h.b.cell 0
  have c1 := h.b.cell 1
  simp only [List.getElem?_cons_zero, List.getElem?_cons_succ] at c0 c1
  have HK : Hid (∀ W : World, Below w.heap.size w W → Calls Try.prog 122 #[.slice DK ks.length cK] W fun e w' => ∃ D' c', e = .returned (.slice D' ks.length c') ∧ OwnB w' W.heap.size 3 1 D' ks.length c' (ks.map (Value.int .i64)) ∧ Below W.heap.size W w' ∧ c' ≤ 9223372036854775807) := (show ∀ W : World, _ from fun W hb => cloneI_calls DK ks.length cK ks W (h.k.sl.below hb) rfl hn)
  have HV : Hid (∀ W : World, Below w.heap.size w W → Calls Try.prog 122 #[.slice DV vs.length cV] W fun e w' => ∃ D' c', e = .returned (.slice D' vs.length c') ∧ OwnB w' W.heap.size 3 1 D' vs.length c' (vs.map (Value.int .i64)) ∧ Below W.heap.size W w' ∧ c' ≤ 9223372036854775807) := (show ∀ W : World, _ from fun W hb => cloneI_calls DV vs.length cV vs W (h.v.sl.below hb) rfl (by omega))
  have HEQ := Lib.hid heq
  have hCE : Hid (∀ e w', CopyEnds w ks vs e w' → CopyEnds w ks vs e w') := (show ∀ _ _, _ → _ from fun _ _ h => h)
  have hB0 := Below.refl w.heap.size w
  clear h heq hCE hn
  go_enter Try.func78, Try.ntmps78
  go_wp2_with fail
  go_region_held3 (fun w' => Below w.heap.size w w' ∧ w'.cell? ⟨p, 0, none⟩ = some (.slice DK ks.length cK) ∧ w'.cell? ⟨p, 1, none⟩ = some (.slice DV vs.length cV)) (first | (exact ⟨hBz, keep_below hBz c0, keep_below hBz c1⟩) | (exact ⟨hBz.drew, keep_below hBz.drew c0, keep_below hBz.drew c1⟩) | (exact ⟨hB0.drew, c0, c1⟩) | (exact ⟨hBz.alloc hBz.size _, keep_below (hBz.alloc hBz.size _) c0, keep_below (hBz.alloc hBz.size _) c1⟩)) (first | (go_at_call 122; (with_reducible refine (HK.out _ (by first | exact hBz | exact hBz.drew | exact hB0.drew | exact hB0)).mono ?_); rintro e wk ⟨D1, k1, rfl, o1, bk, m1⟩; (try have o2' := OwnB.below o2 bk); have hBz := stepC (by first | exact hBz | exact hBz.drew | exact hB0.drew | exact hB0) bk) | (go_at_call 122; (with_reducible refine (HV.out _ (by first | exact hBz | exact hBz.drew | exact hB0.drew | exact hB0)).mono ?_); rintro e wv ⟨D2, k2, rfl, o2, bv, m2⟩; (try have o1' := OwnB.below o1 bv); have hBz := stepC (by first | exact hBz | exact hBz.drew | exact hB0.drew | exact hB0) bv))
  have b0 : w.heap.size ≤ wk.heap.size := bk.size
  have O1 : OwnB wv w.heap.size 3 1 D1 ks.length k1 (ks.map (Value.int .i64)) := o1'
  have O2 : OwnB wv w.heap.size 3 1 D2 vs.length k2 (vs.map (Value.int .i64)) := o2.mono b0
  have HFin := Lib.hid (copied HEQ.out O1 O2 m1 m2 (fun g h1 h2 => by have := (own_lt o1 h1).1; have := (own_lt o2 h2).2; omega) hBz)
  clear b0 O1 O2 o1 o2 bk m1 m2 HEQ HK HV hB0
  go_wp2_with fail
  go_ret
  exact HFin.out
end Go.Proofs.Ytepmnhlfjidhjaa
