/-
  The contracts of frame.putWord, word and Put, and of the document's own four and Frame.
-/
import Derived.Test.YtenhbjcamkbffaaDoorFrameM
import Derived.Test.YtenhbjcamkbffaaDoorOn
import Derived.Test.YtenhbjcamkbffaaDoorApp2
import Derived.Test.YtenhbjcamkbffaaDoorMakeB
import Derived.IntWalk
namespace Go.Proofs.YtenhbjcamkbffaaDoor
open Go.RowKit Go.Mem

theorem infoU8 : (Tryd.prog.info? 5).map (fun i => (i.zero, i.size, i.bytes)) = some (some (.int .u8 0), 1, 1) := by kernel_rfl
/-- a slice of the call's own has been appended to -/
def AppEnds (w0 : World) (B k : Nat) (bs : List UInt8) (e : Ending) (w' : World) : Prop := ∃ (D : Option Addr) (c : Nat), e = .returned (.slice D k c) ∧ OwnB w' B 5 1 D k c (bs.map B8) ∧ Below B w0 w'
theorem word4_cells (x : Nat) : [Value.int .u8 ((x : Int) / 16777216 % 256), .int .u8 ((x : Int) / 65536 % 256), .int .u8 ((x : Int) / 256 % 256), .int .u8 ((x : Int) % 256)] = (Frm.word4 x).map B8 := by
  have h1 : ((x : Int) / 16777216 % 256) = ((UInt8.ofNat (x / 16777216)).toNat : Int) := by rw [UInt8.toNat_ofNat']; omega
  have h2 : ((x : Int) / 65536 % 256) = ((UInt8.ofNat (x / 65536)).toNat : Int) := by rw [UInt8.toNat_ofNat']; omega
  have h3 : ((x : Int) / 256 % 256) = ((UInt8.ofNat (x / 256)).toNat : Int) := by rw [UInt8.toNat_ofNat']; omega
  have h4 : ((x : Int) % 256) = ((UInt8.ofNat x).toNat : Int) := by rw [UInt8.toNat_ofNat']; omega
  rw [h1, h2, h3, h4]; rfl

set_option maxHeartbeats 1600000 in
theorem putWord_calls (B : Nat) (D : Option Addr) (k cap : Nat) (bs : List UInt8) (x : Nat) (w0 w : World) (ho : OwnB w B 5 1 D k cap (bs.map B8)) (hk : k ≤ 100000000) (hbel : Below B w0 w) (hBs : B ≤ w.heap.size) :
    Calls Tryd.prog 29 #[.slice D k cap, .int .u32 (x : Int)] w (AppEnds w0 B (k + 4) (bs ++ Frm.word4 x)) := by
  obtain ⟨i0, hi, hz0, hz1, hz2⟩ := info_parts infoU8
  have HW := Lib.hid (word4_cells x)
  have hx0 : (0 : Int) ≤ (x : Int) := by omega
  have HO := Lib.hid (ho.alloc (.cells #[.int .u8 ((x : Int) / 16777216 % 256), .int .u8 ((x : Int) / 65536 % 256), .int .u8 ((x : Int) / 256 % 256), .int .u8 ((x : Int) % 256)] 5))
  have HSR : Hid (Src Tryd.prog 1 26 (.slice (some ⟨w.heap.size, 0, none⟩) 4 4) 4 ((Frm.word4 x).map B8) (w.alloc (.cells #[.int .u8 ((x : Int) / 16777216 % 256), .int .u8 ((x : Int) / 65536 % 256), .int .u8 ((x : Int) / 256 % 256), .int .u8 ((x : Int) % 256)] 5))) :=
    (show Src _ _ _ _ _ _ _ from srcSl Tryd.underlying26 rfl (Sl.new rfl HW.out.symm) (bytes_one _))
  have hb1 := hbel.alloc hBs (.cells #[.int .u8 ((x : Int) / 16777216 % 256), .int .u8 ((x : Int) / 65536 % 256), .int .u8 ((x : Int) / 256 % 256), .int .u8 ((x : Int) % 256)] 5)
  clear ho hbel
  go_enter Tryd.func29, Tryd.ntmps29
  go_wp2_with (at_builtin; refine wpList_append_ownK (o := ⟨some 18, _, _, _, _, _⟩) rfl (.tmp 5) (.tmp 17) 26 26 rfl 5 i0 (.int .u8 0) 1 1 Tryd.underlying26 hi hz0 hz1 hz2 rfl B D k cap (bs.map B8) rfl HO.out (.slice (some ⟨w.heap.size, 0, none⟩) 4 4) rfl 4 ((Frm.word4 x).map B8) HSR.out (by omega) (by omega) w0 hb1 (by simp; omega) ?_)
  intro w3 D3 c3 HO3 HK3 hb3 hsz3
  have HFin : Hid (AppEnds w0 B (k + 4) (bs ++ Frm.word4 x) (.returned (.slice D3 (k + 4) c3)) w3) := (show AppEnds _ _ _ _ _ _ from ⟨D3, c3, rfl, by rw [List.map_append]; exact HO3.out, hb3⟩)
  clear HO3 HK3 hb3 hsz3 HO HSR hb1
  go_wp2_with fail
  go_ret
  exact HFin.out

set_option maxHeartbeats 800000 in
theorem four_calls (x : Nat) (w : World) :
    Calls Tryd.prog 31 #[.int .i64 (x : Int)] w (AppEnds w w.heap.size 4 (Frm.word4 x)) := by
  have HW := Lib.hid (word4_cells x)
  have hx0 : (0 : Int) ≤ (x : Int) := by omega
  have HFin : Hid (AppEnds w w.heap.size 4 (Frm.word4 x) (.returned (.slice (some ⟨w.heap.size, 0, none⟩) 4 4)) (w.alloc (.cells #[.int .u8 ((x : Int) / 16777216 % 256), .int .u8 ((x : Int) / 65536 % 256), .int .u8 ((x : Int) / 256 % 256), .int .u8 ((x : Int) % 256)] 5))) :=
    (show AppEnds _ _ _ _ _ _ from ⟨_, _, rfl, ⟨rfl, Nat.le_refl _, .inr ⟨w.heap.size, [], rfl, Nat.le_refl _, by rw [List.append_nil, ← HW.out]; exact Blk.new _ _ _, rfl⟩⟩, (Below.refl _ _).alloc (Nat.le_refl _) _⟩)
  go_enter Tryd.func31, Tryd.ntmps31
  go_wp2_with fail
  go_ret
  exact HFin.out

/-- a copy by append onto nil -/
theorem copyNil {w : World} {B : Nat} : OwnB w B 5 1 none 0 0 ([] : List Value) := OwnB.nil _ _ _ _

theorem of_two (A1 A2 : Option Addr) (c1 c2 k1 k2 g : Nat) (b1 b2 : List UInt8) (W : World) (hg : g = W.heap.size) (h1 : b1.length = k1) (h2 : b2.length = k2) (hk1 : k1 ≤ 9223372036854775807) (hk2 : k2 ≤ 9223372036854775807) (hT : Tabs W) (hs1 : Sl W A1 (b1.map B8)) (hs2 : Sl W A2 (b2.map B8)) :
    Calls Tryd.prog 27 #[.slice (some ⟨g, 0, none⟩) 2 2] (W.alloc (.cells #[.slice A1 k1 c1, .slice A2 k2 c2] 26)) fun e w' => e = .returned (.int .u32 ((Crc.crc 0#32 (b1 ++ b2)).toNat : Int)) ∧ ∃ m, w' = (W.alloc (.cells #[.slice A1 k1 c1, .slice A2 k2 c2] 26)).drewN m := by
  subst hg h1 h2
  have h := of_calls (some ⟨W.heap.size, 0, none⟩) 2 2 [⟨A1, c1, b1⟩, ⟨A2, c2, b2⟩] (W.alloc (.cells #[.slice A1 b1.length c1, .slice A2 b2.length c2] 26)) rfl (by decide) (hT.below ((Below.refl _ _).alloc (Nat.le_refl _) _)) (Sl.new rfl rfl) (by
    intro p hp
    rcases List.mem_cons.1 hp with rfl | hp
    · exact ⟨hk1, hs1.alloc _⟩
    · obtain rfl := List.mem_singleton.1 hp
      exact ⟨hk2, hs2.alloc _⟩)
  have e : Crc.crcs 0#32 (List.map Part.bs [⟨A1, c1, b1⟩, ⟨A2, c2, b2⟩]) = Crc.crc 0#32 (b1 ++ b2) := by rw [Crc.crcs_flat]; simp
  rw [e] at h
  exact h

set_option maxRecDepth 100000 in
set_option maxHeartbeats 3200000 in
theorem put_calls (A E : Option Addr) (n m c d : Nat) (bs ps : List UInt8) (w : World) (hT : Tabs w) (hl : bs.length = n) (hn : n ≤ 20000000) (hs : Sl w A (bs.map B8)) (hl2 : ps.length = m) (hm : m ≤ 9223372036854775807) (hp : Sl w E (ps.map B8)) :
    Calls Tryd.prog 19 #[.slice A n c, .slice E m d] w (AppEnds w w.heap.size (bs ++ Frm.frm ps).length (bs ++ Frm.frm ps)) := by
  subst hl hl2
  obtain ⟨i0, hi, hz0, hz1, hz2⟩ := info_parts infoU8
  have HS1 : Hid (∀ W : World, Below w.heap.size w W → Src Tryd.prog 1 26 (.slice A bs.length c) bs.length (bs.map B8) W) := (show ∀ W : World, _ from fun W hW => srcSl Tryd.underlying26 (by simp) (hs.below hW) (bytes_one bs))
  have HS2 : Hid (∀ W : World, Below w.heap.size w W → Src Tryd.prog 1 26 (.slice E ps.length d) ps.length (ps.map B8) W) := (show ∀ W : World, _ from fun W hW => srcSl Tryd.underlying26 (by simp) (hp.below hW) (bytes_one ps))
  have HP := Lib.hid hp
  have HT := Lib.hid hT
  clear hs hp hT
  by_cases hbad : ps.length = 0 ∨ 262144 < ps.length
  · have HFR : Hid ((bs ++ Frm.frm ps) = bs) := (show _ = _ by rw [Frm.frm_no hbad, List.append_nil])
    rw [HFR.out]
    have hcase : ps.length = 0 ∨ (ps.length ≠ 0 ∧ 262144 < ps.length) := by omega
    clear hbad
    rcases hcase with h0 | ⟨h0, h1⟩
    · have hb0 : ((ps.length : Int) == 0) = true := beq_iff_eq.2 (by omega)
      have H0 := Lib.hid h0
      clear h0
      go_enter Tryd.func19, Tryd.ntmps19
      go_wp2_with (at_builtin; refine wpList_append_ownK (o := ⟨some 16, _, _, _, _, _⟩) rfl (.const (.slice none 0 0)) (.tmp 15) 26 26 rfl 5 i0 (.int .u8 0) 1 1 Tryd.underlying26 hi hz0 hz1 hz2 rfl w.heap.size none 0 0 [] rfl (OwnB.nil _ _ _ _) (.slice A bs.length c) rfl bs.length (bs.map B8) (HS1.out _ (Below.refl _ _)) (by omega) (by omega) w (Below.refl _ _) (Nat.le_refl _) ?_)
      intro w3 D3 c3 HO3 HK3 hb3 hsz3
      have HFin : Hid (AppEnds w w.heap.size bs.length bs (.returned (.slice D3 bs.length c3)) w3) := (show AppEnds _ _ _ _ _ _ from ⟨D3, c3, rfl, by simpa using HO3.out, hb3⟩)
      clear HO3 HK3 hb3 hsz3 HS1 HS2
      go_wp2_with fail
      go_ret
      first | exact HFin.out | (simpa using HFin.out)
    · have hb0 : ((ps.length : Int) == 0) = false := beq_eq_false_iff_ne.2 (by omega)
      have hb1 : decide ((262144 : Int) < (ps.length : Int)) = true := decide_eq_true (by omega)
      go_enter Tryd.func19, Tryd.ntmps19
      go_wp2_with (at_builtin; refine wpList_append_ownK (o := ⟨some 16, _, _, _, _, _⟩) rfl (.const (.slice none 0 0)) (.tmp 15) 26 26 rfl 5 i0 (.int .u8 0) 1 1 Tryd.underlying26 hi hz0 hz1 hz2 rfl w.heap.size none 0 0 [] rfl (OwnB.nil _ _ _ _) (.slice A bs.length c) rfl bs.length (bs.map B8) (HS1.out _ (Below.refl _ _)) (by omega) (by omega) w (Below.refl _ _) (Nat.le_refl _) ?_)
      intro w3 D3 c3 HO3 HK3 hb3 hsz3
      have HFin : Hid (AppEnds w w.heap.size bs.length bs (.returned (.slice D3 bs.length c3)) w3) := (show AppEnds _ _ _ _ _ _ from ⟨D3, c3, rfl, by simpa using HO3.out, hb3⟩)
      clear HO3 HK3 hb3 hsz3 HS1 HS2
      go_wp2_with fail
      go_ret
      first | exact HFin.out | (simpa using HFin.out)
  · have HFR : Hid (Frm.frm ps = Frm.word4 ps.length ++ (Frm.word4 (Crc.crc 0#32 (Frm.word4 ps.length ++ ps)).toNat ++ ps)) := Lib.hid (Frm.frm_yes hbad)
    have hb0 : ((ps.length : Int) == 0) = false := beq_eq_false_iff_ne.2 (by omega)
    have hb1 : decide ((262144 : Int) < (ps.length : Int)) = false := decide_eq_false (by omega)
    have hp0 : 0 < ps.length := by omega
    have hp1 : ps.length ≤ 262144 := by omega
    have hmk : ∀ u : World, (Instr.makeSlice 26 (.int .i64 0) (.int .i64 ((bs.length : Int) + 8 + (ps.length : Int)))).run Tryd.prog u = .ok (.slice (some ⟨u.heap.size, 0, none⟩) 0 (bs.length + 8 + ps.length)) (u.alloc (.cells (zerosB (bs.length + 8 + ps.length)) 5)) := by
      have h := mkB 0 (bs.length + 8 + ps.length) (by omega) (by omega)
      push_cast at h
      exact h
    have HO0 : Hid (OwnB (w.alloc (.cells (zerosB (bs.length + 8 + ps.length)) 5)) w.heap.size 5 1 (some ⟨w.heap.size, 0, none⟩) 0 (bs.length + 8 + ps.length) []) :=
      (show OwnB _ _ _ _ _ _ _ _ from ⟨rfl, by omega, .inr ⟨w.heap.size, (zerosB (bs.length + 8 + ps.length)).toList, rfl, Nat.le_refl _, Blk.new _ _ _, by rw [zerosB_list]; simp⟩⟩)
    clear hbad
    generalize zerosB (bs.length + 8 + ps.length) = Z at hmk HO0
    have hb1' := (Below.refl w.heap.size w).alloc (Nat.le_refl _) (.cells Z 5)
    go_enter Tryd.func19, Tryd.ntmps19
    go_wp2_with (at_builtin; refine wpList_append_ownK (o := ⟨some 25, _, _, _, _, _⟩) rfl (.tmp 23) (.tmp 24) 26 26 rfl 5 i0 (.int .u8 0) 1 1 Tryd.underlying26 hi hz0 hz1 hz2 rfl w.heap.size (some ⟨w.heap.size, 0, none⟩) 0 (bs.length + 8 + ps.length) [] rfl HO0.out (.slice A bs.length c) rfl bs.length (bs.map B8) (HS1.out _ hb1') (by omega) (by omega) w hb1' (by simp) ?_)
    intro w2 D2 c2 HO2 HK2 hb2 hsz2
    have HO2' : Hid (OwnB w2 w.heap.size 5 1 D2 bs.length c2 (bs.map B8)) := (show OwnB _ _ _ _ _ _ _ _ by simpa using HO2.out)
    clear HO0 HO2 HK2 hsz2 hb1' hmk HS1
    go_wp2_with fail
    refine (putWord_calls w.heap.size D2 bs.length c2 bs ps.length w w2 HO2'.out (by omega) hb2 hb2.size).mono ?_
    unfold AppEnds
    rintro e w3 ⟨D3, c3, rfl, o3, hb3⟩
    have HO3 := Lib.hid o3
    clear HO2' o3 hb2
    go_wp2_with fail
    refine (putWord_calls w3.heap.size none 0 0 [] ps.length w3 w3 (OwnB.nil _ _ _ _) (by omega) (Below.refl _ _) (Nat.le_refl _)).mono ?_
    unfold AppEnds
    rintro e w4 ⟨D4, c4, rfl, o4, hb4⟩
    have HO4 := Lib.hid (HO3.out.below hb4)
    have hB4 := hb3.trans (hb4.mono hb3.size)
    have HS4 : Hid (Sl w4 D4 ((Frm.word4 ps.length).map B8)) := (show Sl _ _ _ from o4.sl)
    have HT4 := Lib.hid (HT.out.below hB4)
    have HP4 := Lib.hid (HP.out.below hB4)
    clear HO3 o4 hb3 hb4
    go_wp2_with fail
    refine (of_two D4 E c4 d 4 ps.length _ (Frm.word4 ps.length) ps w4 rfl rfl rfl (by omega) (by omega) HT4.out HS4.out HP4.out).mono ?_
    rintro e w5 ⟨rfl, q5, rfl⟩
    have HO5 := Lib.hid ((HO4.out.alloc (.cells #[.slice D4 4 c4, .slice E ps.length d] 26)).drewN q5)
    have hB5 := below_drewN (hB4.alloc hB4.size (.cells #[.slice D4 4 c4, .slice E ps.length d] 26)) q5
    have hclt := (Crc.crc 0#32 (Frm.word4 ps.length ++ ps)).isLt
    clear HO4 HS4 HT4 HP4 hB4 hclt
    generalize (w4.alloc (.cells #[.slice D4 4 c4, .slice E ps.length d] 26)).drewN q5 = w5 at *
    go_wp2_with fail
    refine (putWord_calls w.heap.size D3 (bs.length + 4) c3 (bs ++ Frm.word4 ps.length) _ w w5 HO5.out (by omega) hB5 hB5.size).mono ?_
    unfold AppEnds
    rintro e w6 ⟨D6, c6, rfl, o6, hb6⟩
    have HO6 := Lib.hid o6
    clear HO5 o6 hB5
    go_wp2_with (at_builtin; refine wpList_append_ownK (o := ⟨some 40, _, _, _, _, _⟩) rfl (.tmp 38) (.tmp 39) 26 26 rfl 5 i0 (.int .u8 0) 1 1 Tryd.underlying26 hi hz0 hz1 hz2 rfl w.heap.size D6 (bs.length + 4 + 4) c6 _ rfl HO6.out (.slice E ps.length d) rfl ps.length (ps.map B8) (HS2.out _ hb6) (by omega) (by omega) w hb6 hb6.size ?_)
    intro w7 D7 c7 HO7 HK7 hb7 hsz7
    have HLEN : Hid ((bs ++ Frm.frm ps).length = bs.length + 4 + 4 + ps.length) := (show _ = _ by rw [HFR.out]; simp only [List.length_append, Frm.word4_length]; omega)
    have HFin : Hid (AppEnds w w.heap.size (bs ++ Frm.frm ps).length (bs ++ Frm.frm ps) (.returned (.slice D7 (bs.length + 4 + 4 + ps.length) c7)) w7) := (show AppEnds _ _ _ _ _ _ from ⟨D7, c7, by rw [HLEN.out], by rw [HLEN.out, HFR.out]; simpa [List.append_assoc] using HO7.out, hb7⟩)
    clear HO7 HK7 hb7 hsz7 HO6 hb6 HS2
    go_wp2_with fail
    go_ret
    first | exact HFin.out | (simpa using HFin.out)
end Go.Proofs.YtenhbjcamkbffaaDoor
