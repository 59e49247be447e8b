/-
  SparseFresh, its walk.
-/
import Derived.Test.YtepfmmphajdlfaaSparseRuns
import Derived.Test.YtepfmmphajdlfaaWithin
import Derived.Test.YtepfmmphajdlfaaStructs
namespace Go.Proofs.Ytepfmmphajdlfaa
open Go.ChangeShapes Go.WideShapes Go.RowKit Go.Mem Go.Law

/-- a call -/
structure Ask5 where
  k : Int
  i : Int
  x : Int
def Ask5.cells (a : Ask5) : List Value := [.int .i64 a.k, .int .i64 a.i, .int .i64 a.x]
def Ask5.ok (a : Ask5) : Prop := (-9223372036854775808 ≤ a.k ∧ a.k ≤ 9223372036854775807) ∧ (-9223372036854775808 ≤ a.i ∧ a.i ≤ 9223372036854775807) ∧ -9223372036854775808 ≤ a.x ∧ a.x ≤ 9223372036854775807
set_option maxRecDepth 100000 in
theorem open_asks5 {H : Type} {enc : TypeId × Value → H} {W : World} {v : Value} {d : DataW H} {ps : List MemPlace} {b0 : Nat} (hv : Value.okWide Try.prog W .any b0 85 v) (h : DataW.Trod enc Try.prog W 0 (fun _ => true) true 85 v d ps) :
    ∃ (A : Option Addr) (n c : Nat) (rs : List Ask5), v = .slice A n c ∧ rs.length = n ∧ n ≤ c ∧ c ≤ maxLen ∧ RowsAt W A 3 (rs.map Ask5.cells) ∧ ∀ r ∈ rs, r.ok :=
  open_structs Ask5.cells Ask5.ok Try.underlying85 (by kernel_rfl) (by decide) (fun _ => rfl) (fun fuel cs x hf => by
    obtain ⟨a, b, c, rfl, w0, w1, w2⟩ := ints3_of_trod Try.underlying90 rfl rfl rfl Try.underlying3 Try.underlying3 Try.underlying3 (by kernel_rfl) (by kernel_rfl) (by kernel_rfl) (by kernel_rfl) hf
    exact ⟨⟨a, b, c⟩, rfl, i64_of_wf w0, i64_of_wf w1, i64_of_wf w2⟩) hv h

def addI (xs : List (Nat × Int)) (size : Nat) (i x : Int) : List (Nat × Int) := if canI xs size i = true then xs ++ [(i.toNat, x)] else xs
theorem sadd_any (B p g size c : Nat) (L : Option Addr) (xs : List (Nat × Int)) (i x : Int) (w : World) (h : StI w B p g size L c xs) :
    Calls Try.prog 58 #[.pointer (some ⟨p, 0, none⟩), .int .i64 i, .int .i64 x] w (SEndsI w B p g size L (.bool (canI xs size i)) (addI xs size i x)) := by
  unfold addI
  cases hc : canI xs size i with
  | true =>
    rw [if_pos rfl]
    unfold canI at hc
    rw [Bool.and_eq_true, decide_eq_true_eq] at hc
    obtain ⟨⟨h0, h1⟩, h2⟩ := hc
    obtain ⟨j, rfl⟩ := Int.eq_ofNat_of_zero_le h0
    rw [Int.toNat_natCast]
    exact saddI_ok B p g size c L xs j x w h (by omega) (by simpa using h2)
  | false =>
    rw [if_neg (by decide)]
    exact saddI_no B p g size c L xs i x w h hc
theorem OwnB.lt_ {w : World} {B sz k cap : Nat} {e : TypeId} {D : Option Addr} {pre : List Value} (h : OwnB w B e sz D k cap pre) : ∀ g, D = some ⟨g, 0, none⟩ → g < w.heap.size := fun g hd => by
  rcases h.2.2 with ⟨h3, _⟩ | ⟨g2, sp, hd2, _, hb, _⟩
  · rw [hd] at h3; cases h3
  · obtain rfl : g = g2 := by rw [hd] at hd2; injection hd2 with e; injection e
    exact hb.lt
def Aps (D E : Option Addr) : Prop := ∀ g, D = some ⟨g, 0, none⟩ → E ≠ some ⟨g, 0, none⟩
theorem Aps.symm {D E : Option Addr} (h : Aps D E) : Aps E D := fun g h1 h2 => h g h2 h1
section
variable {w w' : World} {B B2 p g p2 g2 size c c2 : Nat} {L L' L2 : Option Addr} {xs ys : List (Nat × Int)}
theorem own_ne {t e : TypeId} {q sz k cap : Nat} {cs pre : List Value} {D : Option Addr} (h : OwnB w B e sz D k cap pre) (hb : Blk w q t cs) (hne : e ≠ t) : D ≠ some ⟨q, 0, none⟩ := fun hd => by
  rcases h.2.2 with ⟨h3, _⟩ | ⟨g2, sp, hd2, _, hb2, _⟩
  · rw [hd] at h3; cases h3
  · obtain rfl : q = g2 := by rw [hd] at hd2; injection hd2 with e; injection e
    exact hb2.ne_ hb hne rfl
theorem keep_sfr {x : Addr} {v : Value} (f : SFr p g L L' w w') (h : w.cell? x = some v) (h1 : x.block ≠ p) (h2 : x.block ≠ g) (h3 : L ≠ some ⟨x.block, 0, none⟩) : w'.cell? x = some v := (World.cell?_of_block (a := x) (f.block x.block (World.block_lt_of_cell? w x h) h1 h2 h3)).trans h
/-- another set stays -/
theorem StI.other (h : StI w B2 p2 g2 size L2 c2 ys) (hs : StI w B p g size L c xs) (f : SFr p g L L' w w') (e1 : p2 ≠ p) (e4 : g2 ≠ g) (ha : Aps L L2) : StI w' B2 p2 g2 size L2 c2 ys := by
  obtain ⟨ws, h1, h2⟩ := h.wh
  obtain ⟨ws', h1', h2'⟩ := hs.wh
  refine ⟨(f.block p2 h.obj.lt e1 (h.obj.ne_ h1' (by decide)) (own_ne hs.own h.obj (by decide))).trans h.obj, ⟨ws, (f.block g2 h1.lt (h1.ne_ hs.obj (by decide)) e4 (own_ne hs.own h1 (by decide))).trans h1, h2⟩, ?_, h.most, h.low⟩
  obtain ⟨k1, k2, k3⟩ := h.own
  refine ⟨k1, k2, ?_⟩
  rcases k3 with k3 | ⟨g5, sp, hd, hg, hb, hc⟩
  · exact .inl k3
  · exact .inr ⟨g5, sp, hd, hg, (f.block g5 hb.lt (hb.ne_ hs.obj (by decide)) (hb.ne_ h1' (by decide)) (fun e => ha g5 e hd)).trans hb, hc⟩
theorem Aps.turn (ha : Aps L L2) (f : SFr p g L L' w w') (h2 : ∀ k, L2 = some ⟨k, 0, none⟩ → k < w.heap.size) : Aps L' L2 := fun k hk hk2 => by
  rcases f.lies with h | ⟨k', h, hge⟩
  · exact ha k (h ▸ hk) hk2
  · rw [hk] at h
    injection h with h
    injection h with h
    subst h
    have := h2 _ hk2
    omega
end

set_option maxRecDepth 100000 in
set_option maxHeartbeats 6400000 in
theorem sparseFresh_calls (size : Int) (A T : Option Addr) (n cap m tcap : Nat) (bf rs : List Ask5) (w : World) (hsize : -9223372036854775808 ≤ size ∧ size ≤ 9223372036854775807) (hl : bf.length = n) (hn : n ≤ 9223372036854775807) (hs : RowsAt w A 3 (bf.map Ask5.cells))
    (hl2 : rs.length = m) (hm : m ≤ 9223372036854775807) (ht : RowsAt w T 3 (rs.map Ask5.cells)) :
    Calls Try.prog 11 #[.int .i64 size, .slice A n cap, .slice T m tcap] w fun e w' => e = .returned (.bool true) ∧ Below w.heap.size w w' := by
  subst hl hl2
  have hr0 := within_ge size 0 60 (by decide)
  have hr1 := within_le size 0 60 (by decide)
  have HW := Lib.hid (within_calls size 0 60 w (by decide) (by decide) (by decide) hsize)
  generalize within size 0 60 = sz at hr0 hr1 HW
  obtain ⟨sz, rfl⟩ := Int.eq_ofNat_of_zero_le hr0
  clear hsize
  go_enter Try.func11, Try.ntmps11
  go_wp2_with fail
  refine HW.out.mono ?_
  rintro e w0 ⟨rfl, rfl⟩
  go_wp2_with fail
  refine (snewI_ok sz w (by omega)).mono ?_
  unfold NewStI
  rintro e w1 ⟨p, g, rfl, h1, b1⟩
  go_wp2_with fail
  refine (snewI_ok sz w1 (by omega)).mono ?_
  unfold NewStI
  rintro e w2 ⟨p2, g2, rfl, h2, b2⟩
  have e1 : p2 ≠ p := Ne.symm (Nat.ne_of_lt (Nat.lt_of_lt_of_le h1.obj.lt h2.low.1))
  have e4 : g2 ≠ g := by
    obtain ⟨ws, hg1, _⟩ := h1.wh
    exact Ne.symm (Nat.ne_of_lt (Nat.lt_of_lt_of_le hg1.lt h2.low.2))
  have H1 := Lib.hid (h1.below b2)
  have H2 := Lib.hid h2
  have hB0 := b1.trans (b2.mono b1.size)
  have hBB := b1.size
  clear h1 h2 b1 b2 HW
  generalize w1.heap.size = B2 at H2 hBB
  go_wp2_with fail
  go_loopw [11] (fun i wr => ∃ (j c : Nat) (L : Option Addr) (xs : List (Nat × Int)), j ≤ bf.length ∧ j ≤ 100 ∧ i = .int .i64 j ∧ Hid (StI wr w.heap.size p g sz L c xs) ∧ Hid (StI wr B2 p2 g2 sz none 0 []) ∧ Below w.heap.size w wr) (fun i _ => 100 - (intOf i).toNat)
  case atStart => exact ⟨0, 0, none, [], Nat.zero_le _, Nat.zero_le _, rfl, H1, H2, hB0⟩
  case round =>
    clear H1 H2 hB0
    obtain ⟨j, c, L, xs, hj, hj1, rfl, H1, H2, hB⟩ := hrel
    by_cases hin : j < bf.length ∧ j < 100
    · obtain ⟨hlt, h100⟩ := hin
      have hd3 : decide ((j : Int) < 100) = true := decide_eq_true (by omega)
      obtain ⟨b, o, rfl, hc0, hc1, hc2⟩ := (hs.below hB).three (k := j) (List.getElem?_eq_getElem hlt) rfl
      have hsk : ∀ w' : World, Below w.heap.size w w' → w'.cell? ⟨b, o + j * 3 + 1, none⟩ = some (.int .i64 bf[j].i) ∧ w'.cell? ⟨b, o + j * 3 + 2, none⟩ = some (.int .i64 bf[j].x) := fun w' h => by
        obtain ⟨b', o', e, _, k1, k2⟩ := (hs.below h).three (k := j) (List.getElem?_eq_getElem hlt) rfl
        obtain ⟨rfl, rfl⟩ : b = b' ∧ o = o' := by injection e with e; injection e with e1 e2; exact ⟨e1, e2⟩
        exact ⟨k1, k2⟩
      generalize bf[j] = a at hc0 hc1 hc2 hsk
      have HSK := Lib.hid hsk
      have HA := Lib.hid (fun (W : World) (h : StI W w.heap.size p g sz L c xs) => sadd_any _ p g sz c L xs a.i a.x W h)
      have HB3 := Lib.hid (fun (W w3 : World) (L' : Option Addr) (hb : Below w.heap.size w W) (h : StI W w.heap.size p g sz L c xs) (f : SFr p g L L' W w3) => below_setI hb h f)
      have i0 : (0 : Int) ≤ (j : Int) := Int.natCast_nonneg _
      have i1 : (j : Int) < (bf.length : Int) := by omega
      have hBd := hB.drew
      have H1d := Lib.hid (H1.out.drewN 1)
      clear hsk hc0
      go_wp2_with fail
      go_region_held3 (fun w' => w'.cell? ⟨b, o + j * 3 + 1, none⟩ = some (.int .i64 a.i) ∧ w'.cell? ⟨b, o + j * 3 + 2, none⟩ = some (.int .i64 a.x)) (first | (exact HSK.out _ hB4) | go_keep) (first | (go_at_call 58; refine (HA.out _ (by exact H1d.out)).mono ?_; unfold SEndsI; rintro e w3 ⟨L3, c3, rfl, h3, f3⟩; have hB4 := HB3.out _ _ _ hBd H1d.out f3))
      have H3 := Lib.hid h3
      have H4 : Hid (StI w3 B2 p2 g2 sz none 0 []) := (show StI _ _ _ _ _ _ _ _ from (H2.out.drewN 1).other H1d.out f3 e1 e4 (fun g _ e => by cases e))
      clear H1 H2 hB HA HB3 H1d hBd h3 f3 hc1 hc2 HSK
      go_wp2_with fail
      go_roundw
      case rel => exact ⟨j + 1, c3, L3, _, by omega, by omega, by go_num, H3, H4, hB4⟩
      case measure => simp [intOf]; omega
    · by_cases hlt : j < bf.length
      · have hd4 : decide ((j : Int) < 100) = false := decide_eq_false (by omega)
        clear hin
        go_wp2_with fail
        refine (sclearI_calls _ p g sz c L xs _ H1.out).mono ?_
        unfold SEndsI
        rintro e w3 ⟨L3, c3, rfl, h3, f3⟩
        have hB3 := below_setI hB H1.out f3
        have H3 := Lib.hid h3
        have H4 : Hid (StI w3 B2 p2 g2 sz none 0 []) := (show StI _ _ _ _ _ _ _ _ from H2.out.other H1.out f3 e1 e4 (fun g _ e => by cases e))
        have HAp : Hid (Aps L3 none) := (show Aps _ _ from fun g _ e => by cases e)
        clear H1 H2 hB h3 f3
        go_wp2_with fail
        go_loopw [12, 13, 14, 15, 16, 17] (fun i _ _ _ _ _ wr => ∃ (j c c2 : Nat) (L L2 : Option Addr) (xs : List (Nat × Int)), j ≤ rs.length ∧ j ≤ 100 ∧ i = .int .i64 j ∧ Hid (StI wr w.heap.size p g sz L c xs) ∧ Hid (StI wr B2 p2 g2 sz L2 c2 xs) ∧ Hid (Aps L L2) ∧ Below w.heap.size w wr) (fun i _ _ _ _ _ _ => 100 - (intOf i).toNat)
        case atStart => exact ⟨0, c3, 0, L3, none, [], Nat.zero_le _, Nat.zero_le _, rfl, H3, H4, HAp, hB3⟩
        case round =>
          clear H3 H4 HAp hB3
          obtain ⟨j, c, c2, L, L2, xs, hj, hj1, rfl, H1, H2, HAp, hB⟩ := hrel
          by_cases hin : j < rs.length ∧ j < 100
          · obtain ⟨hlt, h100⟩ := hin
            have hd3 : decide ((j : Int) < 100) = true := decide_eq_true (by omega)
            obtain ⟨b, o, rfl, hc0, hc1, hc2⟩ := (ht.below hB).three (k := j) (List.getElem?_eq_getElem hlt) rfl
            generalize rs[j] = a at hc0 hc1 hc2
            have hal : Below wr.heap.size wr (wr.alloc (.cells #[.int .i64 a.k, .int .i64 a.i, .int .i64 a.x] 90)) := (Below.refl _ _).alloc (Nat.le_refl _) _
            have hBq := Blk.new wr 90 #[.int .i64 a.k, .int .i64 a.i, .int .i64 a.x]
            have H1q := Lib.hid (H1.out.below hal)
            have H2q := Lib.hid (H2.out.below hal)
            have hB2 := hB.trans (hal.mono hB.size)
            obtain ⟨ws1, hws1, _⟩ := H1.out.wh
            obtain ⟨ws2, hws2, _⟩ := H2.out.wh
            have n1 : wr.heap.size ≠ p := Ne.symm (Nat.ne_of_lt H1.out.obj.lt)
            have n2 : wr.heap.size ≠ g := Ne.symm (Nat.ne_of_lt hws1.lt)
            have n3 : L ≠ some ⟨wr.heap.size, 0, none⟩ := fun e => Nat.lt_irrefl _ (OwnB.lt_ H1.out.own _ e)
            have n4 : wr.heap.size ≠ p2 := Ne.symm (Nat.ne_of_lt H2.out.obj.lt)
            have n5 : wr.heap.size ≠ g2 := Ne.symm (Nat.ne_of_lt hws2.lt)
            have n6 : L2 ≠ some ⟨wr.heap.size, 0, none⟩ := fun e => Nat.lt_irrefl _ (OwnB.lt_ H2.out.own _ e)
            clear hws1 hws2 hal
            go_wp2_with fail
            clear hc0 hc1 hc2
            generalize wr.alloc (.cells #[.int .i64 a.k, .int .i64 a.i, .int .i64 a.x] 90) = w1 at H1q H2q hB2 hBq ⊢
            clear H1 H2 hB
            have k1 := hBq.cell 1
            have k2 := hBq.cell 2
            simp only [List.getElem?_cons_zero, List.getElem?_cons_succ] at k1 k2
            generalize wr.heap.size = q at k1 k2 n1 n2 n3 n4 n5 n6 hBq ⊢
            have HQ := Lib.hid hBq
            clear hBq
            have HA := Lib.hid (fun (W : World) (h : StI W w.heap.size p g sz L c xs) => sadd_any _ p g sz c L xs a.i a.x W h)
            have HA2 := Lib.hid (fun (W : World) (h : StI W B2 p2 g2 sz L2 c2 xs) => sadd_any _ p2 g2 sz c2 L2 xs a.i a.x W h)
            have H1d := Lib.hid (H1q.out.drewN 1)
            have H2d := Lib.hid (H2q.out.drewN 1)
            generalize hys : addI xs sz a.i a.x = ys at HA HA2
            generalize hcan : canI xs sz a.i = cb at HA HA2
            clear hys hcan
            have hcbne : (cb != cb) = false := by simp
            have hm : ∀ b : Bool, (b != b) = false := fun b => by simp
            have hmm := hm (membI ys a.x)
            generalize hmb : membI ys a.x = mb at hmm
            have HMB := Lib.hid hmb
            have hlen : ((ys.length : Int) != (ys.length : Int)) = false := by simp
            clear hm hmb
            go_wp2_with fail
            go_region_held3 (fun w' => w'.cell? ⟨q, 1, none⟩ = some (.int .i64 a.i) ∧ w'.cell? ⟨q, 2, none⟩ = some (.int .i64 a.x)) (first | (exact ⟨keep_sfr f3 k1 n1 n2 n3, keep_sfr f3 k2 n1 n2 n3⟩) | (exact ⟨keep_sfr f4 (keep_sfr f3 k1 n1 n2 n3) n4 n5 n6, keep_sfr f4 (keep_sfr f3 k2 n1 n2 n3) n4 n5 n6⟩) | go_keep) (first | (go_at_call_of 58 p; refine (HA.out _ (by exact H1d.out)).mono ?_; unfold SEndsI; rintro e w3 ⟨L3, c3, rfl, h3, f3⟩; have HS3 := Lib.hid h3; have HT3 := Lib.hid (H2d.out.other H1d.out f3 e1 e4 HAp.out); clear h3) | (go_at_call_of 58 p2; refine (HA2.out _ (by exact HT3.out)).mono ?_; unfold SEndsI; rintro e w4 ⟨L4, c4, rfl, t4, f4⟩; have HT4 := Lib.hid t4; have HS4 := Lib.hid (HS3.out.other HT3.out f4 (Ne.symm e1) (Ne.symm e4) (Aps.symm (Aps.turn HAp.out f3 (OwnB.lt_ H2d.out.own)))); clear t4) | (go_at_call_of 60 p; refine (hasI_calls _ p g sz _ _ ys a.x _ (by exact HS4.out)).mono ?_; rintro e w5 ⟨rfl, rfl⟩; rw [HMB.out]) | (go_at_call_of 60 p2; refine (hasI_calls _ p2 g2 sz _ _ ys a.x _ (by exact HT4.out)).mono ?_; rintro e w5 ⟨rfl, rfl⟩; rw [HMB.out]) | (go_at_call_of 56 p; refine (slenI_calls _ p g sz _ _ ys _ (by exact HS4.out)).mono ?_; rintro e w5 ⟨rfl, rfl⟩) | (go_at_call_of 56 p2; refine (slenI_calls _ p2 g2 sz _ _ ys _ (by exact HT4.out)).mono ?_; rintro e w5 ⟨rfl, rfl⟩))
            have HAp4 := Lib.hid (Aps.symm (Aps.turn (Aps.symm (Aps.turn HAp.out f3 (OwnB.lt_ H2d.out.own))) f4 (OwnB.lt_ HS3.out.own)))
            have k24 := keep_sfr f4 (keep_sfr f3 k2 n1 n2 n3) n4 n5 n6
            have hB3 := below_setI hB2.drew H1d.out f3
            have hB4 : Below w.heap.size w w4 := hB3.trans ⟨f4.os, f4.tape, f4.output, f4.size, fun k hk => f4.block k (Nat.lt_of_lt_of_le hk hB3.size) (by have := H2d.out.low.1; omega) (by have := H2d.out.low.2; omega) (fun e => by have := OwnB.low_ H2d.out.own k e; omega)⟩
            clear f3 f4 HS3 HT3 H1d H2d H1q H2q hB2 HAp hB3 k1 k2 HQ HA HA2 hcbne hmm hlen
            generalize hgv : getI ys a.x = gv
            have HGV := Lib.hid hgv
            clear hgv
            have hgne : (gv != gv) = false := by simp
            have hmm2 : (mb != mb) = false := by simp
            go_wp2_with fail
            refine (sgetI_calls _ p g sz _ _ ys a.x _ HS4.out).mono ?_
            unfold SQuietI
            rintro e w5 ⟨rfl, q5, rfl⟩
            rw [HGV.out, HMB.out]
            have k25 : (w4.drewN q5).cell? ⟨q, 2, none⟩ = some (.int .i64 a.x) := k24
            have HS5 := Lib.hid (HS4.out.drewN q5)
            have HT5 := Lib.hid (HT4.out.drewN q5)
            have hB5 := below_drewN hB4 q5
            clear HS4 HT4 hB4 k24
            generalize w4.drewN q5 = w5 at HS5 HT5 hB5 k25 ⊢
            unfold I64
            go_wp2_with fail
            refine (sgetI_calls _ p2 g2 sz _ _ ys a.x _ HT5.out).mono ?_
            unfold SQuietI
            rintro e w6 ⟨rfl, q6, rfl⟩
            rw [HGV.out, HMB.out]
            have HS6 := Lib.hid (HS5.out.drewN q6)
            have HT6 := Lib.hid (HT5.out.drewN q6)
            have hB6 := below_drewN hB5 q6
            clear HS5 HT5 hB5 k25
            generalize w5.drewN q6 = w6 at HS6 HT6 hB6 ⊢
            unfold I64
            go_wp2_with fail
            go_roundw
            case rel => exact ⟨j + 1, _, _, _, _, ys, by omega, by omega, by go_num, HS6, HT6, HAp4, hB6⟩
            case measure => simp [intOf]; omega
          · by_cases hlt2 : j < rs.length
            · have hd4 : decide ((j : Int) < 100) = false := decide_eq_false (by omega)
              clear hin
              go_wp2_with fail
              have hcnt := H2.out.count
              go_loopw [18, 19, 20, 21, 22, 23, 24] (fun kk _ _ _ _ _ _ wr => ∃ (i : Nat), kk = .int .i64 ((i : Int) - 1) ∧ i ≤ xs.length + 2 ∧ Hid (StI wr w.heap.size p g sz L c xs) ∧ Hid (StI wr B2 p2 g2 sz L2 c2 xs) ∧ Below w.heap.size w wr) (fun kk _ _ _ _ _ _ _ => ((xs.length : Int) + 1 - intOf kk).toNat)
              case atStart => exact ⟨0, rfl, by omega, H1, H2, hB⟩
              case round =>
                clear H1 H2 HAp hB
                obtain ⟨i, rfl, hi2, H1, H2, hB⟩ := hrel
                by_cases hle : i ≤ xs.length + 1
                · have hd5 : decide ((i : Int) - 1 ≤ (xs.length : Int)) = true := decide_eq_true (by omega)
                  have HR := Lib.hid (fun (W : World) (h : StI W w.heap.size p g sz L c xs) => satI_calls _ p g sz c L xs ((i : Int) - 1) W h)
                  have HR2 := Lib.hid (fun (W : World) (h : StI W B2 p2 g2 sz L2 c2 xs) => satI_calls _ p2 g2 sz c2 L2 xs ((i : Int) - 1) W h)
                  generalize rowI xs ((i : Int) - 1) = rr at HR HR2
                  go_wp2_with fail
                  refine (slenI_calls _ p2 g2 sz c2 L2 xs _ H2.out).mono ?_
                  rintro e w3 ⟨rfl, rfl⟩
                  cases rr with
                  | none =>
                    simp only [rowVI] at HR HR2
                    go_wp2_with fail
                    refine (HR.out _ H1.out).mono ?_
                    unfold SQuietI
                    rintro e w4 ⟨rfl, q4, rfl⟩
                    have HS4 := Lib.hid (H1.out.drewN q4)
                    have HT4 := Lib.hid (H2.out.drewN q4)
                    have hB4 := below_drewN hB q4
                    clear H1 H2 hB
                    generalize wr.drewN q4 = w4 at HS4 HT4 hB4 ⊢
                    go_wp2_with fail
                    refine (HR2.out _ HT4.out).mono ?_
                    unfold SQuietI
                    rintro e w5 ⟨rfl, q5, rfl⟩
                    have HS5 := Lib.hid (HS4.out.drewN q5)
                    have HT5 := Lib.hid (HT4.out.drewN q5)
                    have hB5 := below_drewN hB4 q5
                    clear HS4 HT4 hB4
                    generalize w4.drewN q5 = w5 at HS5 HT5 hB5 ⊢
                    go_wp2_with fail
                    go_roundw
                    case rel => exact ⟨i + 1, congrArg (Value.int .i64) (by omega), by omega, HS5, HT5, hB5⟩
                    case measure => simp [intOf]; omega
                  | some r =>
                    obtain ⟨ri, rx⟩ := r
                    simp only [rowVI] at HR HR2
                    unfold I64 at HR HR2
                    have hx1 : (rx != rx) = false := by simp
                    have hx2 : ((ri : Int) != (ri : Int)) = false := by simp
                    go_wp2_with fail
                    refine (HR.out _ H1.out).mono ?_
                    unfold SQuietI
                    rintro e w4 ⟨rfl, q4, rfl⟩
                    have HS4 := Lib.hid (H1.out.drewN q4)
                    have HT4 := Lib.hid (H2.out.drewN q4)
                    have hB4 := below_drewN hB q4
                    clear H1 H2 hB
                    generalize wr.drewN q4 = w4 at HS4 HT4 hB4 ⊢
                    go_wp2_with fail
                    refine (HR2.out _ HT4.out).mono ?_
                    unfold SQuietI
                    rintro e w5 ⟨rfl, q5, rfl⟩
                    have HS5 := Lib.hid (HS4.out.drewN q5)
                    have HT5 := Lib.hid (HT4.out.drewN q5)
                    have hB5 := below_drewN hB4 q5
                    clear HS4 HT4 hB4
                    generalize w4.drewN q5 = w5 at HS5 HT5 hB5 ⊢
                    go_wp2_with fail
                    go_roundw
                    case rel => exact ⟨i + 1, congrArg (Value.int .i64) (by omega), by omega, HS5, HT5, hB5⟩
                    case measure => simp [intOf]; omega
                · have hd5 : decide ((i : Int) - 1 ≤ (xs.length : Int)) = false := decide_eq_false (by omega)
                  go_wp2_with fail
                  refine (slenI_calls _ p2 g2 sz c2 L2 xs _ H2.out).mono ?_
                  rintro e w3 ⟨rfl, rfl⟩
                  go_wp2_with fail
                  refine (sparseRuns_calls _).mono ?_
                  rintro e w8 ⟨rfl, b8⟩
                  go_wp2_with fail
                  go_ret
                  exact ⟨rfl, hB.trans (b8.mono hB.size)⟩
            · clear hin
              go_wp2_with fail
              have hcnt := H2.out.count
              go_loopw [18, 19, 20, 21, 22, 23, 24] (fun kk _ _ _ _ _ _ wr => ∃ (i : Nat), kk = .int .i64 ((i : Int) - 1) ∧ i ≤ xs.length + 2 ∧ Hid (StI wr w.heap.size p g sz L c xs) ∧ Hid (StI wr B2 p2 g2 sz L2 c2 xs) ∧ Below w.heap.size w wr) (fun kk _ _ _ _ _ _ _ => ((xs.length : Int) + 1 - intOf kk).toNat)
              case atStart => exact ⟨0, rfl, by omega, H1, H2, hB⟩
              case round =>
                clear H1 H2 HAp hB
                obtain ⟨i, rfl, hi2, H1, H2, hB⟩ := hrel
                by_cases hle : i ≤ xs.length + 1
                · have hd5 : decide ((i : Int) - 1 ≤ (xs.length : Int)) = true := decide_eq_true (by omega)
                  have HR := Lib.hid (fun (W : World) (h : StI W w.heap.size p g sz L c xs) => satI_calls _ p g sz c L xs ((i : Int) - 1) W h)
                  have HR2 := Lib.hid (fun (W : World) (h : StI W B2 p2 g2 sz L2 c2 xs) => satI_calls _ p2 g2 sz c2 L2 xs ((i : Int) - 1) W h)
                  generalize rowI xs ((i : Int) - 1) = rr at HR HR2
                  go_wp2_with fail
                  refine (slenI_calls _ p2 g2 sz c2 L2 xs _ H2.out).mono ?_
                  rintro e w3 ⟨rfl, rfl⟩
                  cases rr with
                  | none =>
                    simp only [rowVI] at HR HR2
                    go_wp2_with fail
                    refine (HR.out _ H1.out).mono ?_
                    unfold SQuietI
                    rintro e w4 ⟨rfl, q4, rfl⟩
                    have HS4 := Lib.hid (H1.out.drewN q4)
                    have HT4 := Lib.hid (H2.out.drewN q4)
                    have hB4 := below_drewN hB q4
                    clear H1 H2 hB
                    generalize wr.drewN q4 = w4 at HS4 HT4 hB4 ⊢
                    go_wp2_with fail
                    refine (HR2.out _ HT4.out).mono ?_
                    unfold SQuietI
                    rintro e w5 ⟨rfl, q5, rfl⟩
                    have HS5 := Lib.hid (HS4.out.drewN q5)
                    have HT5 := Lib.hid (HT4.out.drewN q5)
                    have hB5 := below_drewN hB4 q5
                    clear HS4 HT4 hB4
                    generalize w4.drewN q5 = w5 at HS5 HT5 hB5 ⊢
                    go_wp2_with fail
                    go_roundw
                    case rel => exact ⟨i + 1, congrArg (Value.int .i64) (by omega), by omega, HS5, HT5, hB5⟩
                    case measure => simp [intOf]; omega
                  | some r =>
                    obtain ⟨ri, rx⟩ := r
                    simp only [rowVI] at HR HR2
                    unfold I64 at HR HR2
                    have hx1 : (rx != rx) = false := by simp
                    have hx2 : ((ri : Int) != (ri : Int)) = false := by simp
                    go_wp2_with fail
                    refine (HR.out _ H1.out).mono ?_
                    unfold SQuietI
                    rintro e w4 ⟨rfl, q4, rfl⟩
                    have HS4 := Lib.hid (H1.out.drewN q4)
                    have HT4 := Lib.hid (H2.out.drewN q4)
                    have hB4 := below_drewN hB q4
                    clear H1 H2 hB
                    generalize wr.drewN q4 = w4 at HS4 HT4 hB4 ⊢
                    go_wp2_with fail
                    refine (HR2.out _ HT4.out).mono ?_
                    unfold SQuietI
                    rintro e w5 ⟨rfl, q5, rfl⟩
                    have HS5 := Lib.hid (HS4.out.drewN q5)
                    have HT5 := Lib.hid (HT4.out.drewN q5)
                    have hB5 := below_drewN hB4 q5
                    clear HS4 HT4 hB4
                    generalize w4.drewN q5 = w5 at HS5 HT5 hB5 ⊢
                    go_wp2_with fail
                    go_roundw
                    case rel => exact ⟨i + 1, congrArg (Value.int .i64) (by omega), by omega, HS5, HT5, hB5⟩
                    case measure => simp [intOf]; omega
                · have hd5 : decide ((i : Int) - 1 ≤ (xs.length : Int)) = false := decide_eq_false (by omega)
                  go_wp2_with fail
                  refine (slenI_calls _ p2 g2 sz c2 L2 xs _ H2.out).mono ?_
                  rintro e w3 ⟨rfl, rfl⟩
                  go_wp2_with fail
                  refine (sparseRuns_calls _).mono ?_
                  rintro e w8 ⟨rfl, b8⟩
                  go_wp2_with fail
                  go_ret
                  exact ⟨rfl, hB.trans (b8.mono hB.size)⟩
      · clear hin
        go_wp2_with fail
        refine (sclearI_calls _ p g sz c L xs _ H1.out).mono ?_
        unfold SEndsI
        rintro e w3 ⟨L3, c3, rfl, h3, f3⟩
        have hB3 := below_setI hB H1.out f3
        have H3 := Lib.hid h3
        have H4 : Hid (StI w3 B2 p2 g2 sz none 0 []) := (show StI _ _ _ _ _ _ _ _ from H2.out.other H1.out f3 e1 e4 (fun g _ e => by cases e))
        have HAp : Hid (Aps L3 none) := (show Aps _ _ from fun g _ e => by cases e)
        clear H1 H2 hB h3 f3
        go_wp2_with fail
        go_loopw [12, 13, 14, 15, 16, 17] (fun i _ _ _ _ _ wr => ∃ (j c c2 : Nat) (L L2 : Option Addr) (xs : List (Nat × Int)), j ≤ rs.length ∧ j ≤ 100 ∧ i = .int .i64 j ∧ Hid (StI wr w.heap.size p g sz L c xs) ∧ Hid (StI wr B2 p2 g2 sz L2 c2 xs) ∧ Hid (Aps L L2) ∧ Below w.heap.size w wr) (fun i _ _ _ _ _ _ => 100 - (intOf i).toNat)
        case atStart => exact ⟨0, c3, 0, L3, none, [], Nat.zero_le _, Nat.zero_le _, rfl, H3, H4, HAp, hB3⟩
        case round =>
          clear H3 H4 HAp hB3
          obtain ⟨j, c, c2, L, L2, xs, hj, hj1, rfl, H1, H2, HAp, hB⟩ := hrel
          by_cases hin : j < rs.length ∧ j < 100
          · obtain ⟨hlt, h100⟩ := hin
            have hd3 : decide ((j : Int) < 100) = true := decide_eq_true (by omega)
            obtain ⟨b, o, rfl, hc0, hc1, hc2⟩ := (ht.below hB).three (k := j) (List.getElem?_eq_getElem hlt) rfl
            generalize rs[j] = a at hc0 hc1 hc2
            have hal : Below wr.heap.size wr (wr.alloc (.cells #[.int .i64 a.k, .int .i64 a.i, .int .i64 a.x] 90)) := (Below.refl _ _).alloc (Nat.le_refl _) _
            have hBq := Blk.new wr 90 #[.int .i64 a.k, .int .i64 a.i, .int .i64 a.x]
            have H1q := Lib.hid (H1.out.below hal)
            have H2q := Lib.hid (H2.out.below hal)
            have hB2 := hB.trans (hal.mono hB.size)
            obtain ⟨ws1, hws1, _⟩ := H1.out.wh
            obtain ⟨ws2, hws2, _⟩ := H2.out.wh
            have n1 : wr.heap.size ≠ p := Ne.symm (Nat.ne_of_lt H1.out.obj.lt)
            have n2 : wr.heap.size ≠ g := Ne.symm (Nat.ne_of_lt hws1.lt)
            have n3 : L ≠ some ⟨wr.heap.size, 0, none⟩ := fun e => Nat.lt_irrefl _ (OwnB.lt_ H1.out.own _ e)
            have n4 : wr.heap.size ≠ p2 := Ne.symm (Nat.ne_of_lt H2.out.obj.lt)
            have n5 : wr.heap.size ≠ g2 := Ne.symm (Nat.ne_of_lt hws2.lt)
            have n6 : L2 ≠ some ⟨wr.heap.size, 0, none⟩ := fun e => Nat.lt_irrefl _ (OwnB.lt_ H2.out.own _ e)
            clear hws1 hws2 hal
            go_wp2_with fail
            clear hc0 hc1 hc2
            generalize wr.alloc (.cells #[.int .i64 a.k, .int .i64 a.i, .int .i64 a.x] 90) = w1 at H1q H2q hB2 hBq ⊢
            clear H1 H2 hB
            have k1 := hBq.cell 1
            have k2 := hBq.cell 2
            simp only [List.getElem?_cons_zero, List.getElem?_cons_succ] at k1 k2
            generalize wr.heap.size = q at k1 k2 n1 n2 n3 n4 n5 n6 hBq ⊢
            have HQ := Lib.hid hBq
            clear hBq
            have HA := Lib.hid (fun (W : World) (h : StI W w.heap.size p g sz L c xs) => sadd_any _ p g sz c L xs a.i a.x W h)
            have HA2 := Lib.hid (fun (W : World) (h : StI W B2 p2 g2 sz L2 c2 xs) => sadd_any _ p2 g2 sz c2 L2 xs a.i a.x W h)
            have H1d := Lib.hid (H1q.out.drewN 1)
            have H2d := Lib.hid (H2q.out.drewN 1)
            generalize hys : addI xs sz a.i a.x = ys at HA HA2
            generalize hcan : canI xs sz a.i = cb at HA HA2
            clear hys hcan
            have hcbne : (cb != cb) = false := by simp
            have hm : ∀ b : Bool, (b != b) = false := fun b => by simp
            have hmm := hm (membI ys a.x)
            generalize hmb : membI ys a.x = mb at hmm
            have HMB := Lib.hid hmb
            have hlen : ((ys.length : Int) != (ys.length : Int)) = false := by simp
            clear hm hmb
            go_wp2_with fail
            go_region_held3 (fun w' => w'.cell? ⟨q, 1, none⟩ = some (.int .i64 a.i) ∧ w'.cell? ⟨q, 2, none⟩ = some (.int .i64 a.x)) (first | (exact ⟨keep_sfr f3 k1 n1 n2 n3, keep_sfr f3 k2 n1 n2 n3⟩) | (exact ⟨keep_sfr f4 (keep_sfr f3 k1 n1 n2 n3) n4 n5 n6, keep_sfr f4 (keep_sfr f3 k2 n1 n2 n3) n4 n5 n6⟩) | go_keep) (first | (go_at_call_of 58 p; refine (HA.out _ (by exact H1d.out)).mono ?_; unfold SEndsI; rintro e w3 ⟨L3, c3, rfl, h3, f3⟩; have HS3 := Lib.hid h3; have HT3 := Lib.hid (H2d.out.other H1d.out f3 e1 e4 HAp.out); clear h3) | (go_at_call_of 58 p2; refine (HA2.out _ (by exact HT3.out)).mono ?_; unfold SEndsI; rintro e w4 ⟨L4, c4, rfl, t4, f4⟩; have HT4 := Lib.hid t4; have HS4 := Lib.hid (HS3.out.other HT3.out f4 (Ne.symm e1) (Ne.symm e4) (Aps.symm (Aps.turn HAp.out f3 (OwnB.lt_ H2d.out.own)))); clear t4) | (go_at_call_of 60 p; refine (hasI_calls _ p g sz _ _ ys a.x _ (by exact HS4.out)).mono ?_; rintro e w5 ⟨rfl, rfl⟩; rw [HMB.out]) | (go_at_call_of 60 p2; refine (hasI_calls _ p2 g2 sz _ _ ys a.x _ (by exact HT4.out)).mono ?_; rintro e w5 ⟨rfl, rfl⟩; rw [HMB.out]) | (go_at_call_of 56 p; refine (slenI_calls _ p g sz _ _ ys _ (by exact HS4.out)).mono ?_; rintro e w5 ⟨rfl, rfl⟩) | (go_at_call_of 56 p2; refine (slenI_calls _ p2 g2 sz _ _ ys _ (by exact HT4.out)).mono ?_; rintro e w5 ⟨rfl, rfl⟩))
            have HAp4 := Lib.hid (Aps.symm (Aps.turn (Aps.symm (Aps.turn HAp.out f3 (OwnB.lt_ H2d.out.own))) f4 (OwnB.lt_ HS3.out.own)))
            have k24 := keep_sfr f4 (keep_sfr f3 k2 n1 n2 n3) n4 n5 n6
            have hB3 := below_setI hB2.drew H1d.out f3
            have hB4 : Below w.heap.size w w4 := hB3.trans ⟨f4.os, f4.tape, f4.output, f4.size, fun k hk => f4.block k (Nat.lt_of_lt_of_le hk hB3.size) (by have := H2d.out.low.1; omega) (by have := H2d.out.low.2; omega) (fun e => by have := OwnB.low_ H2d.out.own k e; omega)⟩
            clear f3 f4 HS3 HT3 H1d H2d H1q H2q hB2 HAp hB3 k1 k2 HQ HA HA2 hcbne hmm hlen
            generalize hgv : getI ys a.x = gv
            have HGV := Lib.hid hgv
            clear hgv
            have hgne : (gv != gv) = false := by simp
            have hmm2 : (mb != mb) = false := by simp
            go_wp2_with fail
            refine (sgetI_calls _ p g sz _ _ ys a.x _ HS4.out).mono ?_
            unfold SQuietI
            rintro e w5 ⟨rfl, q5, rfl⟩
            rw [HGV.out, HMB.out]
            have k25 : (w4.drewN q5).cell? ⟨q, 2, none⟩ = some (.int .i64 a.x) := k24
            have HS5 := Lib.hid (HS4.out.drewN q5)
            have HT5 := Lib.hid (HT4.out.drewN q5)
            have hB5 := below_drewN hB4 q5
            clear HS4 HT4 hB4 k24
            generalize w4.drewN q5 = w5 at HS5 HT5 hB5 k25 ⊢
            unfold I64
            go_wp2_with fail
            refine (sgetI_calls _ p2 g2 sz _ _ ys a.x _ HT5.out).mono ?_
            unfold SQuietI
            rintro e w6 ⟨rfl, q6, rfl⟩
            rw [HGV.out, HMB.out]
            have HS6 := Lib.hid (HS5.out.drewN q6)
            have HT6 := Lib.hid (HT5.out.drewN q6)
            have hB6 := below_drewN hB5 q6
            clear HS5 HT5 hB5 k25
            generalize w5.drewN q6 = w6 at HS6 HT6 hB6 ⊢
            unfold I64
            go_wp2_with fail
            go_roundw
            case rel => exact ⟨j + 1, _, _, _, _, ys, by omega, by omega, by go_num, HS6, HT6, HAp4, hB6⟩
            case measure => simp [intOf]; omega
          · by_cases hlt2 : j < rs.length
            · have hd4 : decide ((j : Int) < 100) = false := decide_eq_false (by omega)
              clear hin
              go_wp2_with fail
              have hcnt := H2.out.count
              go_loopw [18, 19, 20, 21, 22, 23, 24] (fun kk _ _ _ _ _ _ wr => ∃ (i : Nat), kk = .int .i64 ((i : Int) - 1) ∧ i ≤ xs.length + 2 ∧ Hid (StI wr w.heap.size p g sz L c xs) ∧ Hid (StI wr B2 p2 g2 sz L2 c2 xs) ∧ Below w.heap.size w wr) (fun kk _ _ _ _ _ _ _ => ((xs.length : Int) + 1 - intOf kk).toNat)
              case atStart => exact ⟨0, rfl, by omega, H1, H2, hB⟩
              case round =>
                clear H1 H2 HAp hB
                obtain ⟨i, rfl, hi2, H1, H2, hB⟩ := hrel
                by_cases hle : i ≤ xs.length + 1
                · have hd5 : decide ((i : Int) - 1 ≤ (xs.length : Int)) = true := decide_eq_true (by omega)
                  have HR := Lib.hid (fun (W : World) (h : StI W w.heap.size p g sz L c xs) => satI_calls _ p g sz c L xs ((i : Int) - 1) W h)
                  have HR2 := Lib.hid (fun (W : World) (h : StI W B2 p2 g2 sz L2 c2 xs) => satI_calls _ p2 g2 sz c2 L2 xs ((i : Int) - 1) W h)
                  generalize rowI xs ((i : Int) - 1) = rr at HR HR2
                  go_wp2_with fail
                  refine (slenI_calls _ p2 g2 sz c2 L2 xs _ H2.out).mono ?_
                  rintro e w3 ⟨rfl, rfl⟩
                  cases rr with
                  | none =>
                    simp only [rowVI] at HR HR2
                    go_wp2_with fail
                    refine (HR.out _ H1.out).mono ?_
                    unfold SQuietI
                    rintro e w4 ⟨rfl, q4, rfl⟩
                    have HS4 := Lib.hid (H1.out.drewN q4)
                    have HT4 := Lib.hid (H2.out.drewN q4)
                    have hB4 := below_drewN hB q4
                    clear H1 H2 hB
                    generalize wr.drewN q4 = w4 at HS4 HT4 hB4 ⊢
                    go_wp2_with fail
                    refine (HR2.out _ HT4.out).mono ?_
                    unfold SQuietI
                    rintro e w5 ⟨rfl, q5, rfl⟩
                    have HS5 := Lib.hid (HS4.out.drewN q5)
                    have HT5 := Lib.hid (HT4.out.drewN q5)
                    have hB5 := below_drewN hB4 q5
                    clear HS4 HT4 hB4
                    generalize w4.drewN q5 = w5 at HS5 HT5 hB5 ⊢
                    go_wp2_with fail
                    go_roundw
                    case rel => exact ⟨i + 1, congrArg (Value.int .i64) (by omega), by omega, HS5, HT5, hB5⟩
                    case measure => simp [intOf]; omega
                  | some r =>
                    obtain ⟨ri, rx⟩ := r
                    simp only [rowVI] at HR HR2
                    unfold I64 at HR HR2
                    have hx1 : (rx != rx) = false := by simp
                    have hx2 : ((ri : Int) != (ri : Int)) = false := by simp
                    go_wp2_with fail
                    refine (HR.out _ H1.out).mono ?_
                    unfold SQuietI
                    rintro e w4 ⟨rfl, q4, rfl⟩
                    have HS4 := Lib.hid (H1.out.drewN q4)
                    have HT4 := Lib.hid (H2.out.drewN q4)
                    have hB4 := below_drewN hB q4
                    clear H1 H2 hB
                    generalize wr.drewN q4 = w4 at HS4 HT4 hB4 ⊢
                    go_wp2_with fail
                    refine (HR2.out _ HT4.out).mono ?_
                    unfold SQuietI
                    rintro e w5 ⟨rfl, q5, rfl⟩
                    have HS5 := Lib.hid (HS4.out.drewN q5)
                    have HT5 := Lib.hid (HT4.out.drewN q5)
                    have hB5 := below_drewN hB4 q5
                    clear HS4 HT4 hB4
                    generalize w4.drewN q5 = w5 at HS5 HT5 hB5 ⊢
                    go_wp2_with fail
                    go_roundw
                    case rel => exact ⟨i + 1, congrArg (Value.int .i64) (by omega), by omega, HS5, HT5, hB5⟩
                    case measure => simp [intOf]; omega
                · have hd5 : decide ((i : Int) - 1 ≤ (xs.length : Int)) = false := decide_eq_false (by omega)
                  go_wp2_with fail
                  refine (slenI_calls _ p2 g2 sz c2 L2 xs _ H2.out).mono ?_
                  rintro e w3 ⟨rfl, rfl⟩
                  go_wp2_with fail
                  refine (sparseRuns_calls _).mono ?_
                  rintro e w8 ⟨rfl, b8⟩
                  go_wp2_with fail
                  go_ret
                  exact ⟨rfl, hB.trans (b8.mono hB.size)⟩
            · clear hin
              go_wp2_with fail
              have hcnt := H2.out.count
              go_loopw [18, 19, 20, 21, 22, 23, 24] (fun kk _ _ _ _ _ _ wr => ∃ (i : Nat), kk = .int .i64 ((i : Int) - 1) ∧ i ≤ xs.length + 2 ∧ Hid (StI wr w.heap.size p g sz L c xs) ∧ Hid (StI wr B2 p2 g2 sz L2 c2 xs) ∧ Below w.heap.size w wr) (fun kk _ _ _ _ _ _ _ => ((xs.length : Int) + 1 - intOf kk).toNat)
              case atStart => exact ⟨0, rfl, by omega, H1, H2, hB⟩
              case round =>
                clear H1 H2 HAp hB
                obtain ⟨i, rfl, hi2, H1, H2, hB⟩ := hrel
                by_cases hle : i ≤ xs.length + 1
                · have hd5 : decide ((i : Int) - 1 ≤ (xs.length : Int)) = true := decide_eq_true (by omega)
                  have HR := Lib.hid (fun (W : World) (h : StI W w.heap.size p g sz L c xs) => satI_calls _ p g sz c L xs ((i : Int) - 1) W h)
                  have HR2 := Lib.hid (fun (W : World) (h : StI W B2 p2 g2 sz L2 c2 xs) => satI_calls _ p2 g2 sz c2 L2 xs ((i : Int) - 1) W h)
                  generalize rowI xs ((i : Int) - 1) = rr at HR HR2
                  go_wp2_with fail
                  refine (slenI_calls _ p2 g2 sz c2 L2 xs _ H2.out).mono ?_
                  rintro e w3 ⟨rfl, rfl⟩
                  cases rr with
                  | none =>
                    simp only [rowVI] at HR HR2
                    go_wp2_with fail
                    refine (HR.out _ H1.out).mono ?_
                    unfold SQuietI
                    rintro e w4 ⟨rfl, q4, rfl⟩
                    have HS4 := Lib.hid (H1.out.drewN q4)
                    have HT4 := Lib.hid (H2.out.drewN q4)
                    have hB4 := below_drewN hB q4
                    clear H1 H2 hB
                    generalize wr.drewN q4 = w4 at HS4 HT4 hB4 ⊢
                    go_wp2_with fail
                    refine (HR2.out _ HT4.out).mono ?_
                    unfold SQuietI
                    rintro e w5 ⟨rfl, q5, rfl⟩
                    have HS5 := Lib.hid (HS4.out.drewN q5)
                    have HT5 := Lib.hid (HT4.out.drewN q5)
                    have hB5 := below_drewN hB4 q5
                    clear HS4 HT4 hB4
                    generalize w4.drewN q5 = w5 at HS5 HT5 hB5 ⊢
                    go_wp2_with fail
                    go_roundw
                    case rel => exact ⟨i + 1, congrArg (Value.int .i64) (by omega), by omega, HS5, HT5, hB5⟩
                    case measure => simp [intOf]; omega
                  | some r =>
                    obtain ⟨ri, rx⟩ := r
                    simp only [rowVI] at HR HR2
                    unfold I64 at HR HR2
                    have hx1 : (rx != rx) = false := by simp
                    have hx2 : ((ri : Int) != (ri : Int)) = false := by simp
                    go_wp2_with fail
                    refine (HR.out _ H1.out).mono ?_
                    unfold SQuietI
                    rintro e w4 ⟨rfl, q4, rfl⟩
                    have HS4 := Lib.hid (H1.out.drewN q4)
                    have HT4 := Lib.hid (H2.out.drewN q4)
                    have hB4 := below_drewN hB q4
                    clear H1 H2 hB
                    generalize wr.drewN q4 = w4 at HS4 HT4 hB4 ⊢
                    go_wp2_with fail
                    refine (HR2.out _ HT4.out).mono ?_
                    unfold SQuietI
                    rintro e w5 ⟨rfl, q5, rfl⟩
                    have HS5 := Lib.hid (HS4.out.drewN q5)
                    have HT5 := Lib.hid (HT4.out.drewN q5)
                    have hB5 := below_drewN hB4 q5
                    clear HS4 HT4 hB4
                    generalize w4.drewN q5 = w5 at HS5 HT5 hB5 ⊢
                    go_wp2_with fail
                    go_roundw
                    case rel => exact ⟨i + 1, congrArg (Value.int .i64) (by omega), by omega, HS5, HT5, hB5⟩
                    case measure => simp [intOf]; omega
                · have hd5 : decide ((i : Int) - 1 ≤ (xs.length : Int)) = false := decide_eq_false (by omega)
                  go_wp2_with fail
                  refine (slenI_calls _ p2 g2 sz c2 L2 xs _ H2.out).mono ?_
                  rintro e w3 ⟨rfl, rfl⟩
                  go_wp2_with fail
                  refine (sparseRuns_calls _).mono ?_
                  rintro e w8 ⟨rfl, b8⟩
                  go_wp2_with fail
                  go_ret
                  exact ⟨rfl, hB.trans (b8.mono hB.size)⟩
end Go.Proofs.Ytepfmmphajdlfaa
