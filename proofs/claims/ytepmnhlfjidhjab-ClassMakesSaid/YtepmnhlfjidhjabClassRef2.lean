/-
  The document's own classes: piece, Make, Not.
-/
import Derived.Test.YtepmnhlfjidhjabClassRef
import Derived.Deep.RegionHeld3
namespace Go.Proofs.Ytepmnhlfjidhjab
open Go.RowKit Go.Mem

theorem ownDrew {W : World} {B : Nat} {e : TypeId} {sz : Nat} {D : Option Addr} {k cap : Nat} {pre : List Value} (h : OwnB W B e sz D k cap pre) : OwnB W.drew B e sz D k cap pre := h
theorem quietR {P : Program} {f : FuncId} {args : Array Value} {w : World} {n : Nat} {v : Value} (h : Calls P f args (w.drewN n) fun e w' => e = .returned v ∧ w.drewN n = w') : Calls P f args (w.drewN n) fun e w'' => e = .returned v ∧ ∃ m, w'' = w.drewN m :=
  h.mono fun _ _ ⟨he, hw⟩ => ⟨he, n, hw.symm⟩
set_option maxRecDepth 100000 in
set_option maxHeartbeats 3200000 in
theorem piece_calls (B : Nat) (D : Option Addr) (k cap : Nat) (l : List (Int × Int)) (lo hi : Int) (w0 w : World) (hlo : -2147483648 ≤ lo ∧ lo ≤ 2147483647) (hhi : -2147483648 ≤ hi ∧ hi ≤ 2147483647) (hb : ∀ z ∈ l, 0 ≤ z.2 ∧ z.2 ≤ 1114112) (hk : l.length = k) (hkm : k ≤ 100000000) (ho : OwnB w B 61 2 D k cap (flatR l)) (hbel : Below B w0 w) (hBs : B ≤ w.heap.size) :
    Calls Try.prog 52 #[.slice D k cap, .int .i32 lo, .int .i32 hi] w (RangesEnd w0 B (Cls.piece l lo hi)) := by
  subst hk
  obtain ⟨ir, hir, hzr0, hzr1, hzr2⟩ := info_parts infoR
  obtain ⟨a1, a2⟩ := hlo
  obtain ⟨a3, a4⟩ := hhi
  have HAp : Hid (OwnB (w.alloc (.cells #[.int .i32 lo, .int .i32 hi] 61)) B 61 2 D l.length cap (flatR l)) := (show OwnB _ _ _ _ _ _ _ _ from ho.alloc _)
  have HSr : Hid (Src Try.prog 2 58 (.slice (some ⟨w.heap.size, 0, none⟩) 1 1) 1 (flatR [(lo, hi)]) (w.alloc (.cells #[.int .i32 lo, .int .i32 hi] 61))) := (show Src _ _ _ _ _ _ _ from srcR (Sl.new rfl rfl) rfl)
  have HBl : Hid (Below B w0 (w.alloc (.cells #[.int .i32 lo, .int .i32 hi] 61))) := (show Below _ _ _ from hbel.alloc hBs _)
  rcases List.eq_nil_or_concat l with e | ⟨m, z, e⟩
  · subst e
    have HP : Hid (Cls.piece [] lo hi = [(lo, hi)]) := (show _ = _ from rfl)
    clear ho hbel hb
    go_enter Try.func52, Try.ntmps52
    go_wp2_with (at_builtin; refine wpList_append_ownK (o := ⟨some 35, _, _, _, _, _⟩) rfl (.tmp 30) (.tmp 34) 58 58 rfl 61 ir (.agg #[.int .i32 0, Value.int .i32 0]) 2 8 Try.underlying58 hir hzr0 hzr1 hzr2 rfl B D 0 cap (flatR []) rfl HAp.out (.slice (some ⟨w.heap.size, 0, none⟩) 1 1) rfl 1 (flatR [(lo, hi)]) HSr.out (by omega) (by omega) w0 HBl.out (by simp; omega) ?_)
    intro w5 D5 c5 HO5 _ hB5 _
    clear HAp HSr HBl
    go_wp2_with fail
    go_ret
    rw [HP.out]
    exact ⟨D5, c5, rfl, HO5.out, hB5⟩
  · rw [List.concat_eq_append] at e
    subst e
    have hz := hb z (by simp)
    obtain ⟨z1, z2⟩ := z
    have HP := Lib.hid (Cls.piece_snoc m (z1, z2) lo hi)
    have HL : Hid ((m ++ [(z1, z2)]).length = m.length + 1) := (show _ = _ from by simp)
    simp only at hz HP
    obtain ⟨g, sp, rfl, hg, hbk, hc⟩ := ho.2.2.resolve_left (fun h => by have := HL.out; omega)
    have hcp := ho.le
    have hat := flatR_at (m ++ [(z1, z2)]) m.length (z1, z2) (by simp)
    have c1 := hbk.cell (m.length * 2 + 1)
    rw [List.getElem?_append_left (by rw [flatR_length]; have := HL.out; omega), hat.2] at c1
    have f1 := hbk.frozen (m.length * 2 + 1)
    have HST : Hid (Blk (w.setCell ⟨g, m.length * 2 + 1, none⟩ (.int .i32 hi)) g 61 (flatR (m ++ [(z1, hi)]) ++ sp)) := (show Blk _ _ _ _ from by
      have h := hbk.set_ (m.length * 2 + 1) (.int .i32 hi)
      rw [flatR_set] at h
      exact h)
    have HBS : Hid (Below B w0 (w.setCell ⟨g, m.length * 2 + 1, none⟩ (.int .i32 hi))) := (show Below _ _ _ from hbel.setCell hg _)
    have HC := Lib.hid hc
    rw [HL.out] at hkm hcp HAp
    rw [HL.out]
    clear hat hbk ho hbel hb hc
    generalize hp : m.length = p at *
    have HPE := Lib.hid hp
    clear hp
    have p0 : (0 : Int) ≤ (p : Int) := by omega
    have p1 : (p : Int) < ((p + 1 : Nat) : Int) := by omega
    have hd0 : decide ((0 : Int) < ((p + 1 : Nat) : Int)) = true := decide_eq_true (by omega)
    have e32 : IntKind.i32.wrap (z2 + 1) = z2 + 1 := IntWalk.i32_in _ (by omega)
    by_cases hj : z2 + 1 = lo
    · rw [if_pos hj] at HP
      have hd1 : (z2 + 1 == lo) = true := beq_iff_eq.2 hj
      clear hj HAp HSr HBl
      go_enter Try.func52, Try.ntmps52
      go_wp2_with fail
      go_ret
      rw [HP.out]
      refine ⟨some ⟨g, 0, none⟩, cap, by simp [HPE.out], ⟨by rw [flatR_length], by simp [HPE.out]; omega, .inr ⟨g, sp, rfl, hg, HST.out, by rw [show (m ++ [(z1, hi)]).length = p + 1 by simp [HPE.out]]; have := HC.out; rw [HL.out] at this; exact this⟩⟩, HBS.out⟩
    · rw [if_neg hj] at HP
      have hd1 : (z2 + 1 == lo) = false := beq_eq_false_iff_ne.2 hj
      clear hj HST HBS
      go_enter Try.func52, Try.ntmps52
      go_wp2_with (at_builtin; refine wpList_append_ownK (o := ⟨some 35, _, _, _, _, _⟩) rfl (.tmp 30) (.tmp 34) 58 58 rfl 61 ir (.agg #[.int .i32 0, Value.int .i32 0]) 2 8 Try.underlying58 hir hzr0 hzr1 hzr2 rfl B (some ⟨g, 0, none⟩) (p + 1) cap (flatR (m ++ [(z1, z2)])) rfl HAp.out (.slice (some ⟨w.heap.size, 0, none⟩) 1 1) rfl 1 (flatR [(lo, hi)]) HSr.out (by omega) (by omega) w0 HBl.out (by simp; omega) ?_)
      intro w5 D5 c5 HO5 _ hB5 _
      clear HAp HSr HBl
      go_wp2_with fail
      go_ret
      rw [HP.out]
      refine ⟨D5, c5, by simp [HPE.out], ?_, hB5⟩
      have h := HO5.out
      rw [← flatR_app] at h
      rw [show ((m ++ [(z1, z2)]) ++ [(lo, hi)]).length = p + 1 + 1 by simp [HPE.out]]
      exact h

theorem hasR_side (y : Bool) (l : List (Int × Int)) (r : Int) (hv : Cls.Valid r) : Cls.Side y l r ↔ hasR l r = y := by
  have h := hasR_mem l r
  unfold Cls.Side
  cases y
  · simp only [Bool.false_eq_true, if_false]
    constructor
    · rintro ⟨_, h2⟩; cases e : hasR l r with
      | false => rfl
      | true => exact absurd (h.1 e) h2
    · intro e; exact ⟨hv, fun h2 => by rw [h.2 h2] at e; cases e⟩
  · simp only [if_true]
    exact ⟨fun h2 => h.2 h2.2, fun e => ⟨hv, h.1 e⟩⟩
theorem piece_len (l : List (Int × Int)) (lo hi : Int) : (Cls.piece l lo hi).length ≤ l.length + 1 := by
  rcases List.eq_nil_or_concat l with rfl | ⟨m, z, rfl⟩
  · simp [Cls.piece_nil]
  · rw [List.concat_eq_append, Cls.piece_snoc]; split <;> simp
theorem acc_bd {Q : Int → Prop} {b : Int} {acc : List (Int × Int)} (h : Cls.Acc Q b acc) (hb : b ≤ 1114112) : ∀ z ∈ acc, 0 ≤ z.2 ∧ z.2 ≤ 1114112 := fun z hz => by
  have hle : ∀ (m : Int) (c : List (Int × Int)), Cls.Up m c → ∀ g ∈ c, g.1 ≤ g.2 := by
    intro m c
    induction c generalizing m with
    | nil => intro _ g hg; cases hg
    | cons f c ih =>
      intro hu g hg
      rcases List.mem_cons.1 hg with rfl | hg
      · exact hu.2.1
      · exact ih _ hu.2.2 g hg
  have := ((h.mem z.2).1 ⟨z, hz, hle _ _ h.up z hz, Int.le_refl _⟩).1
  omega
def AnsEnd (y : Bool) (w : World) (l : List (Int × Int)) (e : Ending) (w' : World) : Prop := RangesEnd w w.heap.size (Cls.ans y l) e w'



set_option maxRecDepth 100000 in
set_option maxHeartbeats 6400000 in
theorem refMake_calls (A : Option Addr) (n c : Nat) (l : List (Int × Int)) (w : World) (hl : l.length = n) (hn : n ≤ 1000) (hs : Sl w A (flatR l)) (hi : In32 l) :
    Calls Try.prog 38 #[.slice A n c] w (AnsEnd true w l) := by
  subst hl
  have HM := Lib.hid (marks_calls A l.length c l w rfl hn hs hi)
  have HS := Lib.hid hs
  unfold MarksEnd at HM
  unfold AnsEnd
  clear hs hi
  go_enter Try.func38, Try.ntmps38
  go_wp2_with fail
  refine HM.out.mono ?_
  rintro e w1 ⟨g, L, cL, rfl, hM, hLn, hgB, hsL, hB1⟩
  have HMk := Lib.hid hM
  have HSL := Lib.hid hsL
  have HSl := Lib.hid (HS.out.below hB1)
  have HB1 := Lib.hid hB1
  have hL0 : 0 < L.length := hM.len
  have HA0 : Hid (∃ a : Int, L[0]? = some a ∧ Cls.Acc (Cls.Side true l) a []) := (show ∃ _, _ from ⟨0, hM.first, trivial, fun r => ⟨fun h => absurd h Cls.Mem.nil, fun h => by omega⟩⟩)
  clear hM hsL hB1 HM HS
  go_wp2_with fail
  go_loopw [4, 5] (fun s4 i wr => ∃ (k : Nat) (D : Option Addr) (N cN : Nat) (acc : List (Int × Int)), k + 1 ≤ L.length ∧ i = .int .i64 k ∧ s4 = .slice D N cN ∧ Hid (acc.length = N) ∧ N ≤ k ∧ Hid (OwnB wr w1.heap.size 61 2 D N cN (flatR acc)) ∧ Hid (∃ a : Int, L[k]? = some a ∧ Cls.Acc (Cls.Side true l) a acc) ∧ Below w1.heap.size w1 wr) (fun _ i _ => L.length - (intOf i).toNat)
  case atStart => exact ⟨0, none, 0, 0, [], by omega, rfl, rfl, rfl, Nat.le_refl _, OwnB.nil _ _ _ _, HA0, Below.refl _ _⟩
  case round =>
    clear HA0
    obtain ⟨k, D, N, cN, acc, hk, rfl, rfl, HN, hNk, HO, HA, hB⟩ := hrel
    by_cases hlt : k + 1 < L.length
    · obtain ⟨a, ha, hacc⟩ := HA.out
      have hb := List.getElem?_eq_getElem hlt
      generalize L[k + 1] = b at hb
      have hab := HMk.out.le ha hb
      have ha0 := HMk.out.in_ ha
      have hb0 := HMk.out.in_ hb
      have HF := Lib.hid (Cls.side_from (y := true) HMk.out ha hb)
      have HBd := Lib.hid (acc_bd hacc ha0.2)
      have HAcc := Lib.hid hacc
      have HBL := Lib.hid hb
      have ca : ∀ W, Below w1.heap.size w1 W → W.cell? ⟨g, k, none⟩ = some (.int .i32 a) ∧ W.cell? ⟨g, k + 1, none⟩ = some (.int .i32 b) := fun W hW => by
        obtain ⟨b1, o1, e1, h1⟩ := (HSL.out.below hW) k (.int .i32 a) (by rw [List.getElem?_map, ha]; rfl)
        obtain ⟨b2, o2, e2, h2⟩ := (HSL.out.below hW) (k + 1) (.int .i32 b) (by rw [List.getElem?_map, hb]; rfl)
        injection e1 with e1; injection e1 with e3 e4; subst e3 e4
        injection e2 with e2; injection e2 with e3 e4; subst e3 e4
        rw [Nat.zero_add] at h1 h2
        exact ⟨h1, h2⟩
      have HCA := Lib.hid ca
      obtain ⟨x0, x1⟩ := ca wr hB
      have HHas := Lib.hid (fun W (hW : Below w1.heap.size w1 W) => refHas_calls A l.length c l a W rfl (by omega) (HSl.out.below hW))
      have k0 : (0 : Int) ≤ (k : Int) := by omega
      have k1 : (k : Int) < (L.length : Int) := by omega
      have k2 : (0 : Int) ≤ (k : Int) + 1 := by omega
      have k3 : (k : Int) + 1 < (L.length : Int) := by omega
      have k4 : ((k : Int) + 1).toNat = k + 1 := by omega
      have e1 : IntKind.i64.wrap ((k : Int) + 1) = (k : Int) + 1 := IntWalk.i64_in _ (by omega)
      obtain ⟨a1, a2⟩ := ha0
      obtain ⟨b1, b2⟩ := hb0
      clear ca ha hb HA hacc
      by_cases hlt2 : a < b
      · have d1 : decide (a < b) = true := decide_eq_true hlt2
        have yes : ∀ (hv : a < 55296 ∨ 57343 < a) (hh : hasR l a = true), Hid (Cls.Acc (Cls.Side true l) b (Cls.piece acc a (b - 1))) := fun hv hh => (show Cls.Acc _ _ _ from HAcc.out.yes a1 hlt2 fun r h1 h2 => (HF.out r h1 h2).2 ((hasR_side _ _ _ ⟨a1, by omega, hv⟩).2 hh))
        have no : ∀ (h : ¬ ((a < 55296 ∨ 57343 < a) ∧ hasR l a = true)), Hid (∃ x : Int, L[k + 1]? = some x ∧ Cls.Acc (Cls.Side true l) x acc) := fun h => (show ∃ _, _ from ⟨b, HBL.out, HAcc.out.no hab fun r h1 h2 h3 => h (by
          have h4 := (HF.out r h1 h2).1 h3
          exact ⟨h4.1.2.2, (hasR_side _ _ _ h4.1).1 h4⟩)⟩)
        have YES := Lib.hid yes
        have NO := Lib.hid no
        clear yes no
        cases hhas : hasR l a
        · skip
          rw [hhas] at HHas
          by_cases v1 : a < 55296
          · have d2 : decide (a < 55296) = true := decide_eq_true v1
            have NO2 := NO.out (fun h => by rw [hhas] at h; cases h.2)
            clear NO YES hhas HBL HF HAcc HBd
            go_wp2_with fail
            go_quiet ((go_at_call 51; exact quietR (HHas.out _ (below_drewN hB _))))
            go_wp2_with fail
            go_roundw
            case rel => exact ⟨k + 1, D, N, cN, acc, by omega, by go_num, rfl, HN, by omega, (show Hid (OwnB _ _ _ _ _ _ _ _) from HO), NO2, below_drewN hB _⟩
            case measure => simp [intOf]; omega
          · have d2 : decide (a < 55296) = false := decide_eq_false v1
            by_cases v2 : 57343 < a
            · have d3 : decide (57343 < a) = true := decide_eq_true v2
              have NO2 := NO.out (fun h => by rw [hhas] at h; cases h.2)
              clear NO YES hhas HBL HF HAcc HBd
              go_wp2_with fail
              go_quiet ((go_at_call 51; exact quietR (HHas.out _ (below_drewN hB _))))
              go_wp2_with fail
              go_roundw
              case rel => exact ⟨k + 1, D, N, cN, acc, by omega, by go_num, rfl, HN, by omega, (show Hid (OwnB _ _ _ _ _ _ _ _) from HO), NO2, below_drewN hB _⟩
              case measure => simp [intOf]; omega
            · have d3 : decide (57343 < a) = false := decide_eq_false v2
              have NO2 := NO.out (fun h => by rcases h.1 with h | h; exact v1 h; exact v2 h)
              clear NO YES hhas HHas HBL HF HAcc HBd v1 v2
              go_wp2_with fail
              go_quiet (fail)
              go_wp2_with fail
              go_roundw
              case rel => exact ⟨k + 1, D, N, cN, acc, by omega, by go_num, rfl, HN, by omega, (show Hid (OwnB _ _ _ _ _ _ _ _) from HO), NO2, below_drewN hB _⟩
              case measure => simp [intOf]; omega
        · skip
          rw [hhas] at HHas
          by_cases v1 : a < 55296
          · have d2 : decide (a < 55296) = true := decide_eq_true v1
            rw [hhas] at YES
            clear NO hhas
            have YS := YES.out (.inl v1) rfl
            have HP := Lib.hid (fun W (hW : Below w1.heap.size w1 W) (hO : OwnB W w1.heap.size 61 2 D N cN (flatR acc)) => piece_calls w1.heap.size D N cN acc a (b - 1) w1 W (by omega) (by omega) HBd.out HN.out (by omega) hO hW hW.size)
            have HLP : Hid ((Cls.piece acc a (b - 1)).length ≤ N + 1) := (show _ ≤ _ from by have := piece_len acc a (b - 1); have := HN.out; omega)
            unfold RangesEnd at HP
            generalize Cls.piece acc a (b - 1) = P at YS HP HLP
            generalize hPN : P.length = N2 at HP HLP
            have HN2 := Lib.hid hPN
            have hlp := HLP.out
            clear hPN HLP YES
            have HA2 : Hid (∃ x : Int, L[k + 1]? = some x ∧ Cls.Acc (Cls.Side true l) x P) := (show ∃ _, _ from ⟨b, HBL.out, YS.out⟩)
            have e32 : IntKind.i32.wrap (b - 1) = b - 1 := IntWalk.i32_in _ (by omega)
            clear YS
            go_wp2_with fail
            go_quiet ((go_at_call 51; exact quietR (HHas.out _ (below_drewN hB _))))
            have HO1 := Lib.hid (HO.out.drewN nq)
            have hB1 := below_drewN hB nq
            clear HO hB x0 x1 HHas
            generalize wr.drewN nq = W at HO1 hB1 ⊢
            obtain ⟨x0, x1⟩ := HCA.out W hB1
            go_wp2_with fail
            go_region_held3 (fun w' => w'.cell? ⟨g, k, none⟩ = some (.int .i32 a) ∧ w'.cell? ⟨g, k + 1, none⟩ = some (.int .i32 b)) (first | (exact HCA.out _ hB5) | go_keep) (first | (go_at_call 52; (with_reducible refine (HP.out _ (by first | exact hB1 | exact hB1.drew | exact below_drewN hB1 _) (by first | exact HO1.out | exact ownDrew HO1.out)).mono ?_); rintro e w5 ⟨D5, c5, rfl, HO5, hB5⟩; replace HO5 := Lib.hid HO5))
            clear HCA HP x0 x1 HO1 hB1 HBd
            go_wp2_with fail
            go_roundw
            case rel => exact ⟨k + 1, D5, N2, c5, P, by omega, by go_num, rfl, HN2, by omega, HO5, HA2, hB5⟩
            case measure => simp [intOf]; omega
          · have d2 : decide (a < 55296) = false := decide_eq_false v1
            by_cases v2 : 57343 < a
            · have d3 : decide (57343 < a) = true := decide_eq_true v2
              rw [hhas] at YES
              clear NO hhas
              have YS := YES.out (.inr v2) rfl
              have HP := Lib.hid (fun W (hW : Below w1.heap.size w1 W) (hO : OwnB W w1.heap.size 61 2 D N cN (flatR acc)) => piece_calls w1.heap.size D N cN acc a (b - 1) w1 W (by omega) (by omega) HBd.out HN.out (by omega) hO hW hW.size)
              have HLP : Hid ((Cls.piece acc a (b - 1)).length ≤ N + 1) := (show _ ≤ _ from by have := piece_len acc a (b - 1); have := HN.out; omega)
              unfold RangesEnd at HP
              generalize Cls.piece acc a (b - 1) = P at YS HP HLP
              generalize hPN : P.length = N2 at HP HLP
              have HN2 := Lib.hid hPN
              have hlp := HLP.out
              clear hPN HLP YES
              have HA2 : Hid (∃ x : Int, L[k + 1]? = some x ∧ Cls.Acc (Cls.Side true l) x P) := (show ∃ _, _ from ⟨b, HBL.out, YS.out⟩)
              have e32 : IntKind.i32.wrap (b - 1) = b - 1 := IntWalk.i32_in _ (by omega)
              clear YS
              go_wp2_with fail
              go_quiet ((go_at_call 51; exact quietR (HHas.out _ (below_drewN hB _))))
              have HO1 := Lib.hid (HO.out.drewN nq)
              have hB1 := below_drewN hB nq
              clear HO hB x0 x1 HHas
              generalize wr.drewN nq = W at HO1 hB1 ⊢
              obtain ⟨x0, x1⟩ := HCA.out W hB1
              go_wp2_with fail
              go_region_held3 (fun w' => w'.cell? ⟨g, k, none⟩ = some (.int .i32 a) ∧ w'.cell? ⟨g, k + 1, none⟩ = some (.int .i32 b)) (first | (exact HCA.out _ hB5) | go_keep) (first | (go_at_call 52; (with_reducible refine (HP.out _ (by first | exact hB1 | exact hB1.drew | exact below_drewN hB1 _) (by first | exact HO1.out | exact ownDrew HO1.out)).mono ?_); rintro e w5 ⟨D5, c5, rfl, HO5, hB5⟩; replace HO5 := Lib.hid HO5))
              clear HCA HP x0 x1 HO1 hB1 HBd
              go_wp2_with fail
              go_roundw
              case rel => exact ⟨k + 1, D5, N2, c5, P, by omega, by go_num, rfl, HN2, by omega, HO5, HA2, hB5⟩
              case measure => simp [intOf]; omega
            · have d3 : decide (57343 < a) = false := decide_eq_false v2
              have NO2 := NO.out (fun h => by rcases h.1 with h | h; exact v1 h; exact v2 h)
              clear NO YES hhas HHas HBL HF HAcc HBd v1 v2
              go_wp2_with fail
              go_quiet (fail)
              go_wp2_with fail
              go_roundw
              case rel => exact ⟨k + 1, D, N, cN, acc, by omega, by go_num, rfl, HN, by omega, (show Hid (OwnB _ _ _ _ _ _ _ _) from HO), NO2, below_drewN hB _⟩
              case measure => simp [intOf]; omega
      · obtain rfl : a = b := by omega
        have d1 : decide (a < a) = false := decide_eq_false hlt2
        have HA2 : Hid (∃ x : Int, L[k + 1]? = some x ∧ Cls.Acc (Cls.Side true l) x acc) := (show ∃ _, _ from ⟨a, HBL.out, HAcc.out⟩)
        clear HHas HCA HAcc HF HBd HBL
        go_wp2_with fail
        go_quiet (fail)
        go_wp2_with fail
        go_roundw
        case rel => exact ⟨k + 1, D, N, cN, acc, by omega, by go_num, rfl, HN, by omega, (show Hid (OwnB _ _ _ _ _ _ _ _) from HO), HA2, below_drewN hB _⟩
        case measure => simp [intOf]; omega
    · have HFin : Hid (acc = Cls.ans true l) := (show _ = _ from by
        obtain ⟨a, ha, hacc⟩ := HA.out
        have hla := HMk.out.last (i := k) (by omega)
        rw [ha] at hla
        obtain rfl := Option.some.inj hla
        exact Cls.ans_of hacc)
      have hBB := HB1.out.trans (hB.mono HB1.out.size)
      have hsz1 := HB1.out.size
      clear HA HMk HSL HSl HB1 hB
      go_wp2_with fail
      go_ret
      have hO := (HO.out.mono hsz1)
      rw [← HFin.out]
      refine ⟨D, cN, by rw [HN.out]; rfl, ?_, hBB⟩
      rw [HN.out]
      exact hO

set_option maxRecDepth 100000 in
set_option maxHeartbeats 6400000 in
theorem refNot_calls (A : Option Addr) (n c : Nat) (l : List (Int × Int)) (w : World) (hl : l.length = n) (hn : n ≤ 1000) (hs : Sl w A (flatR l)) (hi : In32 l) :
    Calls Try.prog 39 #[.slice A n c] w (AnsEnd false w l) := by
  subst hl
  have HM := Lib.hid (marks_calls A l.length c l w rfl hn hs hi)
  have HS := Lib.hid hs
  unfold MarksEnd at HM
  unfold AnsEnd
  clear hs hi
  go_enter Try.func39, Try.ntmps39
  go_wp2_with fail
  refine HM.out.mono ?_
  rintro e w1 ⟨g, L, cL, rfl, hM, hLn, hgB, hsL, hB1⟩
  have HMk := Lib.hid hM
  have HSL := Lib.hid hsL
  have HSl := Lib.hid (HS.out.below hB1)
  have HB1 := Lib.hid hB1
  have hL0 : 0 < L.length := hM.len
  have HA0 : Hid (∃ a : Int, L[0]? = some a ∧ Cls.Acc (Cls.Side false l) a []) := (show ∃ _, _ from ⟨0, hM.first, trivial, fun r => ⟨fun h => absurd h Cls.Mem.nil, fun h => by omega⟩⟩)
  clear hM hsL hB1 HM HS
  go_wp2_with fail
  go_loopw [4, 5] (fun s4 i wr => ∃ (k : Nat) (D : Option Addr) (N cN : Nat) (acc : List (Int × Int)), k + 1 ≤ L.length ∧ i = .int .i64 k ∧ s4 = .slice D N cN ∧ Hid (acc.length = N) ∧ N ≤ k ∧ Hid (OwnB wr w1.heap.size 61 2 D N cN (flatR acc)) ∧ Hid (∃ a : Int, L[k]? = some a ∧ Cls.Acc (Cls.Side false l) a acc) ∧ Below w1.heap.size w1 wr) (fun _ i _ => L.length - (intOf i).toNat)
  case atStart => exact ⟨0, none, 0, 0, [], by omega, rfl, rfl, rfl, Nat.le_refl _, OwnB.nil _ _ _ _, HA0, Below.refl _ _⟩
  case round =>
    clear HA0
    obtain ⟨k, D, N, cN, acc, hk, rfl, rfl, HN, hNk, HO, HA, hB⟩ := hrel
    by_cases hlt : k + 1 < L.length
    · obtain ⟨a, ha, hacc⟩ := HA.out
      have hb := List.getElem?_eq_getElem hlt
      generalize L[k + 1] = b at hb
      have hab := HMk.out.le ha hb
      have ha0 := HMk.out.in_ ha
      have hb0 := HMk.out.in_ hb
      have HF := Lib.hid (Cls.side_from (y := false) HMk.out ha hb)
      have HBd := Lib.hid (acc_bd hacc ha0.2)
      have HAcc := Lib.hid hacc
      have HBL := Lib.hid hb
      have ca : ∀ W, Below w1.heap.size w1 W → W.cell? ⟨g, k, none⟩ = some (.int .i32 a) ∧ W.cell? ⟨g, k + 1, none⟩ = some (.int .i32 b) := fun W hW => by
        obtain ⟨b1, o1, e1, h1⟩ := (HSL.out.below hW) k (.int .i32 a) (by rw [List.getElem?_map, ha]; rfl)
        obtain ⟨b2, o2, e2, h2⟩ := (HSL.out.below hW) (k + 1) (.int .i32 b) (by rw [List.getElem?_map, hb]; rfl)
        injection e1 with e1; injection e1 with e3 e4; subst e3 e4
        injection e2 with e2; injection e2 with e3 e4; subst e3 e4
        rw [Nat.zero_add] at h1 h2
        exact ⟨h1, h2⟩
      have HCA := Lib.hid ca
      obtain ⟨x0, x1⟩ := ca wr hB
      have HHas := Lib.hid (fun W (hW : Below w1.heap.size w1 W) => refHas_calls A l.length c l a W rfl (by omega) (HSl.out.below hW))
      have k0 : (0 : Int) ≤ (k : Int) := by omega
      have k1 : (k : Int) < (L.length : Int) := by omega
      have k2 : (0 : Int) ≤ (k : Int) + 1 := by omega
      have k3 : (k : Int) + 1 < (L.length : Int) := by omega
      have k4 : ((k : Int) + 1).toNat = k + 1 := by omega
      have e1 : IntKind.i64.wrap ((k : Int) + 1) = (k : Int) + 1 := IntWalk.i64_in _ (by omega)
      obtain ⟨a1, a2⟩ := ha0
      obtain ⟨b1, b2⟩ := hb0
      clear ca ha hb HA hacc
      by_cases hlt2 : a < b
      · have d1 : decide (a < b) = true := decide_eq_true hlt2
        have yes : ∀ (hv : a < 55296 ∨ 57343 < a) (hh : hasR l a = false), Hid (Cls.Acc (Cls.Side false l) b (Cls.piece acc a (b - 1))) := fun hv hh => (show Cls.Acc _ _ _ from HAcc.out.yes a1 hlt2 fun r h1 h2 => (HF.out r h1 h2).2 ((hasR_side _ _ _ ⟨a1, by omega, hv⟩).2 hh))
        have no : ∀ (h : ¬ ((a < 55296 ∨ 57343 < a) ∧ hasR l a = false)), Hid (∃ x : Int, L[k + 1]? = some x ∧ Cls.Acc (Cls.Side false l) x acc) := fun h => (show ∃ _, _ from ⟨b, HBL.out, HAcc.out.no hab fun r h1 h2 h3 => h (by
          have h4 := (HF.out r h1 h2).1 h3
          exact ⟨h4.1.2.2, (hasR_side _ _ _ h4.1).1 h4⟩)⟩)
        have YES := Lib.hid yes
        have NO := Lib.hid no
        clear yes no
        cases hhas : hasR l a
        · skip
          rw [hhas] at HHas
          by_cases v1 : a < 55296
          · have d2 : decide (a < 55296) = true := decide_eq_true v1
            rw [hhas] at YES
            clear NO hhas
            have YS := YES.out (.inl v1) rfl
            have HP := Lib.hid (fun W (hW : Below w1.heap.size w1 W) (hO : OwnB W w1.heap.size 61 2 D N cN (flatR acc)) => piece_calls w1.heap.size D N cN acc a (b - 1) w1 W (by omega) (by omega) HBd.out HN.out (by omega) hO hW hW.size)
            have HLP : Hid ((Cls.piece acc a (b - 1)).length ≤ N + 1) := (show _ ≤ _ from by have := piece_len acc a (b - 1); have := HN.out; omega)
            unfold RangesEnd at HP
            generalize Cls.piece acc a (b - 1) = P at YS HP HLP
            generalize hPN : P.length = N2 at HP HLP
            have HN2 := Lib.hid hPN
            have hlp := HLP.out
            clear hPN HLP YES
            have HA2 : Hid (∃ x : Int, L[k + 1]? = some x ∧ Cls.Acc (Cls.Side false l) x P) := (show ∃ _, _ from ⟨b, HBL.out, YS.out⟩)
            have e32 : IntKind.i32.wrap (b - 1) = b - 1 := IntWalk.i32_in _ (by omega)
            clear YS
            go_wp2_with fail
            go_quiet ((go_at_call 51; exact quietR (HHas.out _ (below_drewN hB _))))
            have HO1 := Lib.hid (HO.out.drewN nq)
            have hB1 := below_drewN hB nq
            clear HO hB x0 x1 HHas
            generalize wr.drewN nq = W at HO1 hB1 ⊢
            obtain ⟨x0, x1⟩ := HCA.out W hB1
            go_wp2_with fail
            go_region_held3 (fun w' => w'.cell? ⟨g, k, none⟩ = some (.int .i32 a) ∧ w'.cell? ⟨g, k + 1, none⟩ = some (.int .i32 b)) (first | (exact HCA.out _ hB5) | go_keep) (first | (go_at_call 52; (with_reducible refine (HP.out _ (by first | exact hB1 | exact hB1.drew | exact below_drewN hB1 _) (by first | exact HO1.out | exact ownDrew HO1.out)).mono ?_); rintro e w5 ⟨D5, c5, rfl, HO5, hB5⟩; replace HO5 := Lib.hid HO5))
            clear HCA HP x0 x1 HO1 hB1 HBd
            go_wp2_with fail
            go_roundw
            case rel => exact ⟨k + 1, D5, N2, c5, P, by omega, by go_num, rfl, HN2, by omega, HO5, HA2, hB5⟩
            case measure => simp [intOf]; omega
          · have d2 : decide (a < 55296) = false := decide_eq_false v1
            by_cases v2 : 57343 < a
            · have d3 : decide (57343 < a) = true := decide_eq_true v2
              rw [hhas] at YES
              clear NO hhas
              have YS := YES.out (.inr v2) rfl
              have HP := Lib.hid (fun W (hW : Below w1.heap.size w1 W) (hO : OwnB W w1.heap.size 61 2 D N cN (flatR acc)) => piece_calls w1.heap.size D N cN acc a (b - 1) w1 W (by omega) (by omega) HBd.out HN.out (by omega) hO hW hW.size)
              have HLP : Hid ((Cls.piece acc a (b - 1)).length ≤ N + 1) := (show _ ≤ _ from by have := piece_len acc a (b - 1); have := HN.out; omega)
              unfold RangesEnd at HP
              generalize Cls.piece acc a (b - 1) = P at YS HP HLP
              generalize hPN : P.length = N2 at HP HLP
              have HN2 := Lib.hid hPN
              have hlp := HLP.out
              clear hPN HLP YES
              have HA2 : Hid (∃ x : Int, L[k + 1]? = some x ∧ Cls.Acc (Cls.Side false l) x P) := (show ∃ _, _ from ⟨b, HBL.out, YS.out⟩)
              have e32 : IntKind.i32.wrap (b - 1) = b - 1 := IntWalk.i32_in _ (by omega)
              clear YS
              go_wp2_with fail
              go_quiet ((go_at_call 51; exact quietR (HHas.out _ (below_drewN hB _))))
              have HO1 := Lib.hid (HO.out.drewN nq)
              have hB1 := below_drewN hB nq
              clear HO hB x0 x1 HHas
              generalize wr.drewN nq = W at HO1 hB1 ⊢
              obtain ⟨x0, x1⟩ := HCA.out W hB1
              go_wp2_with fail
              go_region_held3 (fun w' => w'.cell? ⟨g, k, none⟩ = some (.int .i32 a) ∧ w'.cell? ⟨g, k + 1, none⟩ = some (.int .i32 b)) (first | (exact HCA.out _ hB5) | go_keep) (first | (go_at_call 52; (with_reducible refine (HP.out _ (by first | exact hB1 | exact hB1.drew | exact below_drewN hB1 _) (by first | exact HO1.out | exact ownDrew HO1.out)).mono ?_); rintro e w5 ⟨D5, c5, rfl, HO5, hB5⟩; replace HO5 := Lib.hid HO5))
              clear HCA HP x0 x1 HO1 hB1 HBd
              go_wp2_with fail
              go_roundw
              case rel => exact ⟨k + 1, D5, N2, c5, P, by omega, by go_num, rfl, HN2, by omega, HO5, HA2, hB5⟩
              case measure => simp [intOf]; omega
            · have d3 : decide (57343 < a) = false := decide_eq_false v2
              have NO2 := NO.out (fun h => by rcases h.1 with h | h; exact v1 h; exact v2 h)
              clear NO YES hhas HHas HBL HF HAcc HBd v1 v2
              go_wp2_with fail
              go_quiet (fail)
              go_wp2_with fail
              go_roundw
              case rel => exact ⟨k + 1, D, N, cN, acc, by omega, by go_num, rfl, HN, by omega, (show Hid (OwnB _ _ _ _ _ _ _ _) from HO), NO2, below_drewN hB _⟩
              case measure => simp [intOf]; omega
        · skip
          rw [hhas] at HHas
          by_cases v1 : a < 55296
          · have d2 : decide (a < 55296) = true := decide_eq_true v1
            have NO2 := NO.out (fun h => by rw [hhas] at h; cases h.2)
            clear NO YES hhas HBL HF HAcc HBd
            go_wp2_with fail
            go_quiet ((go_at_call 51; exact quietR (HHas.out _ (below_drewN hB _))))
            go_wp2_with fail
            go_roundw
            case rel => exact ⟨k + 1, D, N, cN, acc, by omega, by go_num, rfl, HN, by omega, (show Hid (OwnB _ _ _ _ _ _ _ _) from HO), NO2, below_drewN hB _⟩
            case measure => simp [intOf]; omega
          · have d2 : decide (a < 55296) = false := decide_eq_false v1
            by_cases v2 : 57343 < a
            · have d3 : decide (57343 < a) = true := decide_eq_true v2
              have NO2 := NO.out (fun h => by rw [hhas] at h; cases h.2)
              clear NO YES hhas HBL HF HAcc HBd
              go_wp2_with fail
              go_quiet ((go_at_call 51; exact quietR (HHas.out _ (below_drewN hB _))))
              go_wp2_with fail
              go_roundw
              case rel => exact ⟨k + 1, D, N, cN, acc, by omega, by go_num, rfl, HN, by omega, (show Hid (OwnB _ _ _ _ _ _ _ _) from HO), NO2, below_drewN hB _⟩
              case measure => simp [intOf]; omega
            · have d3 : decide (57343 < a) = false := decide_eq_false v2
              have NO2 := NO.out (fun h => by rcases h.1 with h | h; exact v1 h; exact v2 h)
              clear NO YES hhas HHas HBL HF HAcc HBd v1 v2
              go_wp2_with fail
              go_quiet (fail)
              go_wp2_with fail
              go_roundw
              case rel => exact ⟨k + 1, D, N, cN, acc, by omega, by go_num, rfl, HN, by omega, (show Hid (OwnB _ _ _ _ _ _ _ _) from HO), NO2, below_drewN hB _⟩
              case measure => simp [intOf]; omega
      · obtain rfl : a = b := by omega
        have d1 : decide (a < a) = false := decide_eq_false hlt2
        have HA2 : Hid (∃ x : Int, L[k + 1]? = some x ∧ Cls.Acc (Cls.Side false l) x acc) := (show ∃ _, _ from ⟨a, HBL.out, HAcc.out⟩)
        clear HHas HCA HAcc HF HBd HBL
        go_wp2_with fail
        go_quiet (fail)
        go_wp2_with fail
        go_roundw
        case rel => exact ⟨k + 1, D, N, cN, acc, by omega, by go_num, rfl, HN, by omega, (show Hid (OwnB _ _ _ _ _ _ _ _) from HO), HA2, below_drewN hB _⟩
        case measure => simp [intOf]; omega
    · have HFin : Hid (acc = Cls.ans false l) := (show _ = _ from by
        obtain ⟨a, ha, hacc⟩ := HA.out
        have hla := HMk.out.last (i := k) (by omega)
        rw [ha] at hla
        obtain rfl := Option.some.inj hla
        exact Cls.ans_of hacc)
      have hBB := HB1.out.trans (hB.mono HB1.out.size)
      have hsz1 := HB1.out.size
      clear HA HMk HSL HSl HB1 hB
      go_wp2_with fail
      go_ret
      have hO := (HO.out.mono hsz1)
      rw [← HFin.out]
      refine ⟨D, cN, by rw [HN.out]; rfl, ?_, hBB⟩
      rw [HN.out]
      exact hO
end Go.Proofs.Ytepmnhlfjidhjab
