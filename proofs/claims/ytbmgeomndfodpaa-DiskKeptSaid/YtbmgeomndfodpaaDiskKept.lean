/-
  DiskKept: what is handed in, and what is told, may be turned later.
-/
import Derived.Test.YtbmgeomndfodpaaDiskPre
import Derived.Test.YtbmgeomndfodpaaDiskRuns
import Derived.Test.YtbmgeomndfodpaaRoomyB
import Derived.Test.YtbmgeomndfodpaaIntactB
namespace Go.Proofs.Ytbmgeomndfodpaa
open Go.RowKit Go.Mem Go.Proofs

def kF : ByteArray := ⟨#[102]⟩
/-- the bytes that were handed in, whatever they are now, beside the disk -/
def KpS (w wr : World) (d gF nn : Nat) (M : FS) (W : List MW) (S : Nat → Prop) : Prop := DV 1 16777217 wr w.heap.size d M W S ∧ (∃ zs : List UInt8, zs.length = nn ∧ Blk wr gF 5 (zs.map B8)) ∧ Below w.heap.size w wr ∧ ¬ S gF ∧ w.heap.size ≤ gF
/-- the bytes that were told, whatever they are now, beside the disk -/
def KtS (w wr : World) (d n c : Nat) (D : Option Addr) (M : FS) (W : List MW) (S : Nat → Prop) : Prop := DV 1 16777217 wr w.heap.size d M W S ∧ (∃ zs : List UInt8, zs.length = n ∧ OwnB wr w.heap.size 5 1 D n c (zs.map B8)) ∧ Below w.heap.size w wr ∧ ∀ g, D = some ⟨g, 0, none⟩ → ¬ S g
theorem flip_ex (x : UInt8) : ∃ y : UInt8, Value.int .u8 (255 - (x.toNat : Int)) = B8 y := by
  have h := x.toNat_lt
  refine ⟨UInt8.ofNat (255 - x.toNat), ?_⟩
  have : (UInt8.ofNat (255 - x.toNat)).toNat = 255 - x.toNat := by simp; omega
  unfold B8
  rw [this]; congr 1; omega
theorem KpS.flip {w wr : World} {d gF nn k : Nat} {M : FS} {W : List MW} {S : Nat → Prop} (h : KpS w wr d gF nn M W S) (hk : k < nn) : ∃ x : UInt8, wr.cell? ⟨gF, k, none⟩ = some (.int .u8 (x.toNat : Int)) ∧ wr.frozen? ⟨gF, k, none⟩ = false ∧ KpS w (wr.setCell ⟨gF, k, none⟩ (.int .u8 (255 - (x.toNat : Int)))) d gF nn M W S := by
  obtain ⟨hd, ⟨zs, hl, hb⟩, hB, hS, hw⟩ := h
  have hkl : k < zs.length := by omega
  obtain ⟨y, hy⟩ := flip_ex zs[k]
  refine ⟨zs[k], ?_, hb.frozen k, hd.keep (by simp [World.setCell]) (fun g hg hs => Below.heap_setCell wr ⟨gF, k, none⟩ _ g (fun e => hS (by simp only at e; rw [← e]; exact hs))), ⟨zs.set k y, by simp [hl], ?_⟩, hB.setCell (p := ⟨gF, k, none⟩) hw _, hS, hw⟩
  · rw [hb.cell, List.getElem?_map, List.getElem?_eq_getElem hkl]; rfl
  · rw [hy, List.map_set]; exact hb.set_ k (B8 y)
theorem KtS.flip {w wr : World} {d n c k : Nat} {D : Option Addr} {M : FS} {W : List MW} {S : Nat → Prop} (h : KtS w wr d n c D M W S) (hk : k < n) : ∃ (x : UInt8) (g : Nat), D = some ⟨g, 0, none⟩ ∧ wr.cell? ⟨g, k, none⟩ = some (.int .u8 (x.toNat : Int)) ∧ wr.frozen? ⟨g, k, none⟩ = false ∧ KtS w (wr.setCell ⟨g, k, none⟩ (.int .u8 (255 - (x.toNat : Int)))) d n c D M W S := by
  obtain ⟨hd, ⟨zs, hl, ho⟩, hB, hS⟩ := h
  have hkl : k < zs.length := by omega
  obtain ⟨y, hy⟩ := flip_ex zs[k]
  rcases ho.2.2 with ⟨_, h0, _⟩ | ⟨g, sp, rfl, hg, hb, hc⟩
  · omega
  · refine ⟨zs[k], g, rfl, ?_, hb.frozen k, hd.keep (by simp [World.setCell]) (fun g' hg' hs => Below.heap_setCell wr ⟨g, k, none⟩ _ g' (fun e => hS g rfl (by simp only at e; rw [← e]; exact hs))), ⟨zs.set k y, by simp [hl], ⟨by simp [hl], ho.2.1, .inr ⟨g, sp, rfl, hg, ?_, hc⟩⟩⟩, hB.setCell (p := ⟨g, k, none⟩) hg _, hS⟩
    · rw [hb.cell, List.getElem?_append_left (by simpa using hkl), List.getElem?_map, List.getElem?_eq_getElem hkl]; rfl
    · have := hb.set_ k (B8 y)
      rw [List.set_append_left _ _ (by simpa using hkl), ← List.map_set] at this
      rw [hy]; exact this
theorem rowB_bytes (bs : List UInt8) (m : UInt8) : ∃ zs : List UInt8, zs.length = bs.length + 80 ∧ rowB bs m 80 = zs.map B8 := ⟨bs ++ (List.replicate 80 m ++ List.replicate (80 - 80) 0), by simp, by unfold rowB; rw [List.map_append, List.map_append, List.map_replicate, List.map_replicate]; rfl⟩
/-- the file behind the call, and behind a Back -/
theorem kept_append (bs : List UInt8) (hn : bs.length ≤ 500) : dappNo kF bs (replay [] []) = 0 ∧ replay [] ([] ++ dappW kF bs (replay [] [])) = [(kF, bs)] := by
  have h0 : dappNo kF bs (replay [] []) = 0 := by
    unfold dappNo
    rw [show rightD kF = true by kernel_rfl, if_pos rfl, if_neg (show ¬ 16777216 - totF (replay [] []) < bs.length from by show ¬ 16777216 - 0 < bs.length; omega)]
  refine ⟨h0, ?_⟩
  rw [replay_append (M := []) (W := []) List.Pairwise.nil h0]
  rfl
theorem kept_back (bs : List UInt8) (hn : bs.length ≤ 500) (j : Nat) : ∃ m, m ≤ bs.length ∧ bytesF kF (replay [] (([] ++ dappW kF bs (replay [] [])).take j)) = bs.take m := by
  have h0 := (kept_append bs hn).1
  have e : [] ++ dappW kF bs (replay [] []) = creX kF :: (pieces bs).map (groX kF) := by
    unfold dappW
    rw [if_pos h0]; rfl
  rw [e]
  cases j with
  | zero => exact ⟨0, Nat.zero_le _, rfl⟩
  | succ j =>
    rw [List.take_succ_cons]
    have e2 : replay [] (creX kF :: List.take j (List.map (groX kF) (pieces bs))) = replay [(kF, [])] (((pieces bs).map (groX kF)).take j) := rfl
    rw [e2]
    by_cases hj : 1 ≤ j ∧ 1 ≤ bs.length
    · rw [replay_pieces (k := kF) (F := [(kF, [])]) (List.pairwise_singleton _ _) bs j hj.1 hj.2, bytesF_setF _ _ _ (show Tab.Rising ltS ([(kF, ([] : List UInt8))].map Prod.fst) from List.pairwise_singleton _ _), if_pos rfl]
      refine ⟨min (32 * j) bs.length, Nat.min_le_right _ _, ?_⟩
      show [] ++ _ = _
      rw [List.nil_append, List.take_eq_take_iff]; omega
    · refine ⟨0, Nat.zero_le _, ?_⟩
      have : ((pieces bs).map (groX kF)).take j = [] := by
        by_cases h1 : j = 0
        · subst h1; rfl
        · have : bs = [] := List.eq_nil_of_length_eq_zero (by omega)
          subst this; rw [pieces_nil]; simp
      rw [this]; rfl
set_option maxRecDepth 100000 in
set_option maxHeartbeats 6400000 in
theorem diskKept_few (A : Option Addr) (n c : Nat) (bs : List UInt8) (a : Int) (w : World) (hl : bs.length = n) (hnc : n ≤ c) (hs : Sl w A (bs.map B8)) (hn5 : n ≤ 500) : Calls Try.prog 13 #[.slice A n c, .int .i64 a] w fun e w' => e = .returned (.bool true) ∧ Below w.heap.size w w' := by
  have hgt : ¬ ((500 : Int) < (n : Int)) := by omega
  obtain ⟨k1, k2⟩ := kept_append bs (by omega)
  have HK1 := Lib.hid k1
  have HK2 := Lib.hid k2
  have HSA : Hid (∀ W, Below w.heap.size w W → Sl W A (bs.map B8)) := (show ∀ W, _ from fun W hW => hs.below hW)
  have HKB := Lib.hid (kept_back bs (by omega))
  have HL := Lib.hid hl
  have i0 : (0 : Int) ≤ (n : Int) := by omega
  have i1 : (n : Int) ≤ (c : Int) := by omega
  have i2 : (n : Int) ≤ ((n + 80 : Nat) : Int) := by omega
  generalize hW1 : [] ++ dappW kF bs (replay [] []) = W1 at *
  have HW1 := Lib.hid hW1
  clear k1 k2 hs hW1 hl
  go_enter Try.func13, Try.ntmps13
  go_wp2_with fail
  refine (dnew_calls w).mono ?_
  rintro e w1 ⟨d, S1, rfl, h1, b1⟩
  go_wp2_with fail
  refine (roomyB_calls A n c bs 8 w1 HL.out (by omega) (HSA.out w1 b1)).mono ?_
  rintro e w2 ⟨rfl, b2, hb2⟩
  have h2 := Lib.hid (h1.below b2)
  have B2 := Lib.hid (show Below w.heap.size w w2 from b1.trans (b2.mono b1.size))
  have hgF : Hid (∀ g o sp, (some (⟨w1.heap.size, 0, none⟩ : Addr)) = some ⟨g, o, sp⟩ → ¬ S1 g) := (show ∀ g o sp, _ from fun g o sp e hs => by
    injection e with e; injection e with e
    have := (h1.y.lt g hs).2; omega)
  have hgw : w.heap.size ≤ w1.heap.size := b1.size
  have HB2 := Lib.hid hb2
  have HSF : Hid (Sl w2 (some ⟨w1.heap.size, 0, none⟩) (bs.map B8)) := (show Sl _ _ _ from by
    have h := hb2.sl.take bs.length
    unfold rowB at h
    rw [List.take_append_of_le_length (by simp), List.take_of_length_le (by simp)] at h
    exact h)
  clear h1 b1 b2 hb2
  generalize w1.heap.size = gF at *
  go_wp2_with fail
  refine (dappendV h2.out kF (some ⟨gF, 0, none⟩) n (n + 80) bs HK1.out HW1.out HL.out HSF.out hgF.out (by decide) rfl rfl (by decide) (by decide)).mono ?_
  rintro e w3 ⟨rfl, S3, h3, f3, b3⟩
  have hbl2 := HB2.out.lt
  have HB3 := Lib.hid (show Blk w3 gF 5 (rowB bs 8 80) from (f3.k gF hbl2 (hgF.out gF 0 none rfl)).trans HB2.out)
  have HS3 := Lib.hid (show ¬ S3 gF from fun e => hgF.out gF 0 none rfl (f3.n gF hbl2 e))
  have B3 := Lib.hid (show Below w.heap.size w w3 from B2.out.trans b3)
  have H3 := Lib.hid h3
  have HF3 : Hid (Sl w3 (some ⟨gF, 0, none⟩) (rowB bs 8 80)) := Lib.hid HB3.out.sl
  clear h3 f3 b3 h2 HSF HB2 hgF hbl2 B2
  go_wp2_with fail
  refine (intactB_calls (some ⟨gF, 0, none⟩) A n (n + 80) (n + 80) c bs 8 w3 HL.out rfl (by omega) HF3.out (HSA.out w3 B3.out) (Nat.le_refl _)).mono ?_
  rintro e w4 ⟨rfl, q4, hq4⟩
  have HKp : Hid (KpS w w4 d gF (n + 80) [] W1 S3) := (show KpS _ _ _ _ _ _ _ _ from by
    subst hq4
    obtain ⟨zs, z1, z2⟩ := rowB_bytes bs 8
    refine ⟨H3.out.drewN q4, ⟨zs, by rw [z1, HL.out], ?_⟩, below_drewN B3.out q4, HS3.out, hgw⟩
    have := HB3.out.drewN q4
    rwa [z2] at this)
  clear hq4 HF3 HB3 HS3 B3 H3 hgw
  go_wp2_with fail
  go_loopw [7] (fun i wr => ∃ (k : Nat), k ≤ n + 80 ∧ i = .int .i64 k ∧ Hid (KpS w wr d gF (n + 80) [] W1 S3)) (fun i _ => n + 80 - (intOf i).toNat)
  case atStart => exact ⟨0, Nat.zero_le _, rfl, HKp⟩
  case round =>
    obtain ⟨k, hk, rfl, HP⟩ := hrel
    by_cases hlt : k < n + 80
    · have j0 : (0 : Int) ≤ (k : Int) := by omega
      have j1 : (k : Int) < ((n + 80 : Nat) : Int) := by omega
      have hw1 : IntKind.i64.wrap ((k : Int) + 1) = (k : Int) + 1 := by rw [IntKind.wrap_i64]; omega
      obtain ⟨x, x1, x2, x3⟩ := HP.out.flip hlt
      have hx := x.toNat_lt
      have hw2 : IntKind.u8.wrap (255 - (x.toNat : Int)) = 255 - (x.toNat : Int) := by show (255 - (x.toNat : Int)) % 256 = _; omega
      have HX := Lib.hid x3
      clear x3 HP
      go_wp2_with fail
      exact ⟨⟨k + 1, hlt, by simp, HX⟩, by simp [intOf]; omega⟩
    · have j1 : ¬ ((k : Int) < ((n + 80 : Nat) : Int)) := by omega
      have HR : Hid (Calls Try.prog 38 #[.pointer (some ⟨d, 0, none⟩), .string kF] wr fun e w' => ∃ (D : Option Addr) (c : Nat), e = .returned (.tuple #[.slice D n c, .bool true]) ∧ n ≤ c ∧ Hid (KtS w w' d n c D [] W1 S3)) := (show Calls _ _ _ _ _ from by
        obtain ⟨hd, _, hB, _, _⟩ := HP.out
        refine (dreadV hd (by decide) kF (bs := bs) (n := n) (b := true) (by rw [HK2.out]; rfl) HL.out (by rw [HK2.out]; rfl)).mono ?_
        rintro e w' ⟨D, c', rfl, o, hd', hb'⟩
        exact ⟨D, c', rfl, o.le, (show KtS _ _ _ _ _ _ _ _ _ from ⟨hd', ⟨bs, HL.out, o.mono hB.size⟩, hB.trans (hb'.mono hB.size), fun g hg hs => by
          have h1 := (hd.y.lt g hs).2
          have h2 := (own_ltN o hg).2
          omega⟩)⟩)
      clear HP
      go_wp2_with fail
      refine HR.out.mono ?_
      rintro e w5 ⟨D5, c5, rfl, hc5, HT5⟩
      clear HR
      go_wp2_with fail
      go_loopw [10] (fun i wr => ∃ (k : Nat), k ≤ n ∧ i = .int .i64 k ∧ Hid (KtS w wr d n c5 D5 [] W1 S3)) (fun i _ => n - (intOf i).toNat)
      case atStart => exact ⟨0, Nat.zero_le _, rfl, HT5⟩
      case round =>
        obtain ⟨k2, hk2, rfl, HP2⟩ := hrel
        by_cases hlt2 : k2 < n
        · have j2 : (0 : Int) ≤ (k2 : Int) := by omega
          have j3 : (k2 : Int) < (n : Int) := by omega
          have hw3 : IntKind.i64.wrap ((k2 : Int) + 1) = (k2 : Int) + 1 := by rw [IntKind.wrap_i64]; omega
          obtain ⟨x, g, rfl, x1, x2, x3⟩ := HP2.out.flip hlt2
          have hx := x.toNat_lt
          have hw2 : IntKind.u8.wrap (255 - (x.toNat : Int)) = 255 - (x.toNat : Int) := by show (255 - (x.toNat : Int)) % 256 = _; omega
          have HX := Lib.hid x3
          clear x3 HP2
          go_wp2_with fail
          exact ⟨⟨k2 + 1, hlt2, by simp, HX⟩, by simp [intOf]; omega⟩
        · have j3 : ¬ ((k2 : Int) < (n : Int)) := by omega
          obtain ⟨hd, _, hB, _⟩ := HP2.out
          have HRd := Lib.hid (dreadV hd (by decide) kF (bs := bs) (n := n) (b := true) (by rw [HK2.out]; rfl) HL.out (by rw [HK2.out]; rfl))
          have HBq := Lib.hid hB
          clear HP2 hd hB
          go_wp2_with fail
          refine HRd.out.mono ?_
          rintro e w6 ⟨D6, c6, rfl, o6, h6, b6⟩
          have B6 := Lib.hid (show Below w.heap.size w w6 from HBq.out.trans (b6.mono HBq.out.size))
          have H6 := Lib.hid h6
          have HSm := Lib.hid (sameB_calls D6 A n n c6 c bs bs w6 HL.out HL.out (by omega) (by omega) o6.sl (HSA.out w6 B6.out))
          rw [eqL_self] at HSm
          clear HRd HBq b6 h6 o6
          go_wp2_with fail
          refine HSm.out.mono ?_
          rintro e w7 ⟨rfl, q7, hq7⟩
          have H7 : Hid (DV 1 16777217 w7 w.heap.size d [] W1 S3) := (show DV _ _ _ _ _ _ _ _ from by rw [hq7]; exact H6.out.drewN q7)
          have B7 : Hid (Below w.heap.size w w7) := (show Below _ _ _ from by rw [hq7]; exact below_drewN B6.out q7)
          clear HSm B6 H6 hq7
          go_wp2_with fail
          refine (dbackV H7.out a rfl (by decide) (by decide)).mono ?_
          rintro e w8 ⟨rfl, S8, h8, _, b8⟩
          obtain ⟨m, hm, hmb⟩ := HKB.out (backN a W1.length)
          have H8 := Lib.hid h8
          have B8' := Lib.hid (show Below w.heap.size w w8 from B7.out.trans b8)
          have hml : (bs.take m).length = m := by rw [List.length_take, HL.out]; have := HL.out; omega
          have hmn : m ≤ n := by rw [← HL.out]; exact hm
          have HRd := Lib.hid (dreadV h8 (by decide) kF (bs := bs.take m) (n := m) hmb hml rfl)
          have HML := Lib.hid hml
          clear H7 B7 h8 b8 hmb hml hm
          go_wp2_with fail
          refine HRd.out.mono ?_
          rintro e w9 ⟨D9, c9, rfl, o9, h9, b9⟩
          have B9 := Lib.hid (show Below w.heap.size w w9 from B8'.out.trans (b9.mono B8'.out.size))
          have HSm := Lib.hid (sameB_calls D9 A m m c9 c (bs.take m) (bs.take m) w9 HML.out HML.out (by omega) (by omega) o9.sl (by rw [List.map_take]; exact (HSA.out w9 B9.out).take m))
          rw [eqL_self] at HSm
          have m0 : (0 : Int) ≤ (m : Int) := by omega
          have m1 : (m : Int) ≤ (n : Int) := by omega
          have m2 : (m : Int) ≤ (c : Int) := by omega
          clear HRd o9 h9 b9 B8' H8
          go_wp2_with fail
          refine HSm.out.mono ?_
          rintro e w10 ⟨rfl, q10, hq10⟩
          have B10 : Hid (Below w.heap.size w w10) := (show Below _ _ _ from by rw [hq10]; exact below_drewN B9.out q10)
          clear HSm B9 hq10
          go_wp2_with fail
          refine (diskRuns_calls w10).mono ?_
          rintro e w11 ⟨rfl, b11⟩
          go_wp2_with fail
          go_ret
          exact ⟨rfl, B10.out.trans (b11.mono B10.out.size)⟩
set_option maxRecDepth 100000 in
set_option maxHeartbeats 6400000 in
theorem diskKept_many (A : Option Addr) (n c : Nat) (bs : List UInt8) (a : Int) (w : World) (hl : bs.length = n) (hnc : n ≤ c) (hs : Sl w A (bs.map B8)) (hn5 : n = 500) (n0 : Nat) (hn0 : 500 < n0) : Calls Try.prog 13 #[.slice A n0 c, .int .i64 a] w fun e w' => e = .returned (.bool true) ∧ Below w.heap.size w w' := by
  have hgt : (500 : Int) < (n0 : Int) := by omega
  have hc5 : (500 : Int) ≤ (c : Int) := by omega
  obtain ⟨k1, k2⟩ := kept_append bs (by omega)
  have HK1 := Lib.hid k1
  have HK2 := Lib.hid k2
  have HSA : Hid (∀ W, Below w.heap.size w W → Sl W A (bs.map B8)) := (show ∀ W, _ from fun W hW => hs.below hW)
  have HKB := Lib.hid (kept_back bs (by omega))
  have HL := Lib.hid hl
  have i0 : (0 : Int) ≤ (n : Int) := by omega
  have i1 : (n : Int) ≤ (c : Int) := by omega
  have i2 : (n : Int) ≤ ((n + 80 : Nat) : Int) := by omega
  generalize hW1 : [] ++ dappW kF bs (replay [] []) = W1 at *
  have HW1 := Lib.hid hW1
  clear k1 k2 hs hW1 hl
  go_enter Try.func13, Try.ntmps13
  go_wp2_with fail
  rw [← hn5]
  have hn6 : n ≤ 500 := by omega
  clear hn5 hgt hc5 hn0
  refine (dnew_calls w).mono ?_
  rintro e w1 ⟨d, S1, rfl, h1, b1⟩
  go_wp2_with fail
  refine (roomyB_calls A n c bs 8 w1 HL.out (by omega) (HSA.out w1 b1)).mono ?_
  rintro e w2 ⟨rfl, b2, hb2⟩
  have h2 := Lib.hid (h1.below b2)
  have B2 := Lib.hid (show Below w.heap.size w w2 from b1.trans (b2.mono b1.size))
  have hgF : Hid (∀ g o sp, (some (⟨w1.heap.size, 0, none⟩ : Addr)) = some ⟨g, o, sp⟩ → ¬ S1 g) := (show ∀ g o sp, _ from fun g o sp e hs => by
    injection e with e; injection e with e
    have := (h1.y.lt g hs).2; omega)
  have hgw : w.heap.size ≤ w1.heap.size := b1.size
  have HB2 := Lib.hid hb2
  have HSF : Hid (Sl w2 (some ⟨w1.heap.size, 0, none⟩) (bs.map B8)) := (show Sl _ _ _ from by
    have h := hb2.sl.take bs.length
    unfold rowB at h
    rw [List.take_append_of_le_length (by simp), List.take_of_length_le (by simp)] at h
    exact h)
  clear h1 b1 b2 hb2
  generalize w1.heap.size = gF at *
  go_wp2_with fail
  refine (dappendV h2.out kF (some ⟨gF, 0, none⟩) n (n + 80) bs HK1.out HW1.out HL.out HSF.out hgF.out (by decide) rfl rfl (by decide) (by decide)).mono ?_
  rintro e w3 ⟨rfl, S3, h3, f3, b3⟩
  have hbl2 := HB2.out.lt
  have HB3 := Lib.hid (show Blk w3 gF 5 (rowB bs 8 80) from (f3.k gF hbl2 (hgF.out gF 0 none rfl)).trans HB2.out)
  have HS3 := Lib.hid (show ¬ S3 gF from fun e => hgF.out gF 0 none rfl (f3.n gF hbl2 e))
  have B3 := Lib.hid (show Below w.heap.size w w3 from B2.out.trans b3)
  have H3 := Lib.hid h3
  have HF3 : Hid (Sl w3 (some ⟨gF, 0, none⟩) (rowB bs 8 80)) := Lib.hid HB3.out.sl
  clear h3 f3 b3 h2 HSF HB2 hgF hbl2 B2
  go_wp2_with fail
  refine (intactB_calls (some ⟨gF, 0, none⟩) A n (n + 80) (n + 80) c bs 8 w3 HL.out rfl (by omega) HF3.out (HSA.out w3 B3.out) (Nat.le_refl _)).mono ?_
  rintro e w4 ⟨rfl, q4, hq4⟩
  have HKp : Hid (KpS w w4 d gF (n + 80) [] W1 S3) := (show KpS _ _ _ _ _ _ _ _ from by
    subst hq4
    obtain ⟨zs, z1, z2⟩ := rowB_bytes bs 8
    refine ⟨H3.out.drewN q4, ⟨zs, by rw [z1, HL.out], ?_⟩, below_drewN B3.out q4, HS3.out, hgw⟩
    have := HB3.out.drewN q4
    rwa [z2] at this)
  clear hq4 HF3 HB3 HS3 B3 H3 hgw
  go_wp2_with fail
  go_loopw [7] (fun i wr => ∃ (k : Nat), k ≤ n + 80 ∧ i = .int .i64 k ∧ Hid (KpS w wr d gF (n + 80) [] W1 S3)) (fun i _ => n + 80 - (intOf i).toNat)
  case atStart => exact ⟨0, Nat.zero_le _, rfl, HKp⟩
  case round =>
    obtain ⟨k, hk, rfl, HP⟩ := hrel
    by_cases hlt : k < n + 80
    · have j0 : (0 : Int) ≤ (k : Int) := by omega
      have j1 : (k : Int) < ((n + 80 : Nat) : Int) := by omega
      have hw1 : IntKind.i64.wrap ((k : Int) + 1) = (k : Int) + 1 := by rw [IntKind.wrap_i64]; omega
      obtain ⟨x, x1, x2, x3⟩ := HP.out.flip hlt
      have hx := x.toNat_lt
      have hw2 : IntKind.u8.wrap (255 - (x.toNat : Int)) = 255 - (x.toNat : Int) := by show (255 - (x.toNat : Int)) % 256 = _; omega
      have HX := Lib.hid x3
      clear x3 HP
      go_wp2_with fail
      exact ⟨⟨k + 1, hlt, by simp, HX⟩, by simp [intOf]; omega⟩
    · have j1 : ¬ ((k : Int) < ((n + 80 : Nat) : Int)) := by omega
      have HR : Hid (Calls Try.prog 38 #[.pointer (some ⟨d, 0, none⟩), .string kF] wr fun e w' => ∃ (D : Option Addr) (c : Nat), e = .returned (.tuple #[.slice D n c, .bool true]) ∧ n ≤ c ∧ Hid (KtS w w' d n c D [] W1 S3)) := (show Calls _ _ _ _ _ from by
        obtain ⟨hd, _, hB, _, _⟩ := HP.out
        refine (dreadV hd (by decide) kF (bs := bs) (n := n) (b := true) (by rw [HK2.out]; rfl) HL.out (by rw [HK2.out]; rfl)).mono ?_
        rintro e w' ⟨D, c', rfl, o, hd', hb'⟩
        exact ⟨D, c', rfl, o.le, (show KtS _ _ _ _ _ _ _ _ _ from ⟨hd', ⟨bs, HL.out, o.mono hB.size⟩, hB.trans (hb'.mono hB.size), fun g hg hs => by
          have h1 := (hd.y.lt g hs).2
          have h2 := (own_ltN o hg).2
          omega⟩)⟩)
      clear HP
      go_wp2_with fail
      refine HR.out.mono ?_
      rintro e w5 ⟨D5, c5, rfl, hc5, HT5⟩
      clear HR
      go_wp2_with fail
      go_loopw [10] (fun i wr => ∃ (k : Nat), k ≤ n ∧ i = .int .i64 k ∧ Hid (KtS w wr d n c5 D5 [] W1 S3)) (fun i _ => n - (intOf i).toNat)
      case atStart => exact ⟨0, Nat.zero_le _, rfl, HT5⟩
      case round =>
        obtain ⟨k2, hk2, rfl, HP2⟩ := hrel
        by_cases hlt2 : k2 < n
        · have j2 : (0 : Int) ≤ (k2 : Int) := by omega
          have j3 : (k2 : Int) < (n : Int) := by omega
          have hw3 : IntKind.i64.wrap ((k2 : Int) + 1) = (k2 : Int) + 1 := by rw [IntKind.wrap_i64]; omega
          obtain ⟨x, g, rfl, x1, x2, x3⟩ := HP2.out.flip hlt2
          have hx := x.toNat_lt
          have hw2 : IntKind.u8.wrap (255 - (x.toNat : Int)) = 255 - (x.toNat : Int) := by show (255 - (x.toNat : Int)) % 256 = _; omega
          have HX := Lib.hid x3
          clear x3 HP2
          go_wp2_with fail
          exact ⟨⟨k2 + 1, hlt2, by simp, HX⟩, by simp [intOf]; omega⟩
        · have j3 : ¬ ((k2 : Int) < (n : Int)) := by omega
          obtain ⟨hd, _, hB, _⟩ := HP2.out
          have HRd := Lib.hid (dreadV hd (by decide) kF (bs := bs) (n := n) (b := true) (by rw [HK2.out]; rfl) HL.out (by rw [HK2.out]; rfl))
          have HBq := Lib.hid hB
          clear HP2 hd hB
          go_wp2_with fail
          refine HRd.out.mono ?_
          rintro e w6 ⟨D6, c6, rfl, o6, h6, b6⟩
          have B6 := Lib.hid (show Below w.heap.size w w6 from HBq.out.trans (b6.mono HBq.out.size))
          have H6 := Lib.hid h6
          have HSm := Lib.hid (sameB_calls D6 A n n c6 c bs bs w6 HL.out HL.out (by omega) (by omega) o6.sl (HSA.out w6 B6.out))
          rw [eqL_self] at HSm
          clear HRd HBq b6 h6 o6
          go_wp2_with fail
          refine HSm.out.mono ?_
          rintro e w7 ⟨rfl, q7, hq7⟩
          have H7 : Hid (DV 1 16777217 w7 w.heap.size d [] W1 S3) := (show DV _ _ _ _ _ _ _ _ from by rw [hq7]; exact H6.out.drewN q7)
          have B7 : Hid (Below w.heap.size w w7) := (show Below _ _ _ from by rw [hq7]; exact below_drewN B6.out q7)
          clear HSm B6 H6 hq7
          go_wp2_with fail
          refine (dbackV H7.out a rfl (by decide) (by decide)).mono ?_
          rintro e w8 ⟨rfl, S8, h8, _, b8⟩
          obtain ⟨m, hm, hmb⟩ := HKB.out (backN a W1.length)
          have H8 := Lib.hid h8
          have B8' := Lib.hid (show Below w.heap.size w w8 from B7.out.trans b8)
          have hml : (bs.take m).length = m := by rw [List.length_take, HL.out]; have := HL.out; omega
          have hmn : m ≤ n := by rw [← HL.out]; exact hm
          have HRd := Lib.hid (dreadV h8 (by decide) kF (bs := bs.take m) (n := m) hmb hml rfl)
          have HML := Lib.hid hml
          clear H7 B7 h8 b8 hmb hml hm
          go_wp2_with fail
          refine HRd.out.mono ?_
          rintro e w9 ⟨D9, c9, rfl, o9, h9, b9⟩
          have B9 := Lib.hid (show Below w.heap.size w w9 from B8'.out.trans (b9.mono B8'.out.size))
          have HSm := Lib.hid (sameB_calls D9 A m m c9 c (bs.take m) (bs.take m) w9 HML.out HML.out (by omega) (by omega) o9.sl (by rw [List.map_take]; exact (HSA.out w9 B9.out).take m))
          rw [eqL_self] at HSm
          have m0 : (0 : Int) ≤ (m : Int) := by omega
          have m1 : (m : Int) ≤ (n : Int) := by omega
          have m2 : (m : Int) ≤ (c : Int) := by omega
          clear HRd o9 h9 b9 B8' H8
          go_wp2_with fail
          refine HSm.out.mono ?_
          rintro e w10 ⟨rfl, q10, hq10⟩
          have B10 : Hid (Below w.heap.size w w10) := (show Below _ _ _ from by rw [hq10]; exact below_drewN B9.out q10)
          clear HSm B9 hq10
          go_wp2_with fail
          refine (diskRuns_calls w10).mono ?_
          rintro e w11 ⟨rfl, b11⟩
          go_wp2_with fail
          go_ret
          exact ⟨rfl, B10.out.trans (b11.mono B10.out.size)⟩
theorem diskKept_calls (A : Option Addr) (n c : Nat) (bs : List UInt8) (a : Int) (w : World) (hl : bs.length = n) (hnc : n ≤ c) (hs : Sl w A (bs.map B8)) : Calls Try.prog 13 #[.slice A n c, .int .i64 a] w fun e w' => e = .returned (.bool true) ∧ Below w.heap.size w w' := by
  by_cases h : n ≤ 500
  · exact diskKept_few A n c bs a w hl hnc hs h
  · exact diskKept_many A 500 c (bs.take 500) a w (by rw [List.length_take]; omega) (by omega) (by rw [List.map_take]; exact hs.take 500) rfl n (by omega)
end Go.Proofs.Ytbmgeomndfodpaa
