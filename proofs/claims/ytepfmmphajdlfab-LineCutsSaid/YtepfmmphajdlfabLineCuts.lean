/-
  LineCuts, its walk.
-/
import Derived.Test.YtepfmmphajdlfabLineRuns
import Derived.Test.YtepfmmphajdlfabLineCutM
import Derived.Test.YtepfmmphajdlfabIntactB
import Derived.Test.YtepfmmphajdlfabKeep
import Derived.Test.YtepfmmphajdlfabApp2
import Derived.Deep.DeepCutAuto
namespace Go.Proofs.Ytepfmmphajdlfab
open Go.RowKit Go.Mem

theorem infoByteC : (Try.prog.info? 5).map (fun i => (i.zero, i.size, i.bytes)) = some (some (.int .u8 0), 1, 1) := by kernel_rfl
/-- a text's bytes -/
def chars (s : ByteArray) : List UInt8 := s.data.toList
theorem chars_length (s : ByteArray) : (chars s).length = s.size := by show s.data.toList.length = s.data.size; exact Array.length_toList
theorem byteCells_eq (s : ByteArray) : byteCells s = (chars s).map B8 := rfl
theorem chars_S8 (s : ByteArray) : Value.string s = S8 (chars s) := rfl

theorem chars_snoc (s : ByteArray) (k : Nat) (h : k < s.size) : (chars s).take (k + 1) = (chars s).take k ++ [s[k]] := by
  unfold chars
  rw [List.take_succ_eq_append_getElem (by simpa using h)]; rfl

set_option maxRecDepth 100000 in
set_option maxHeartbeats 3200000 in
theorem lineCuts_calls (A : Option Addr) (n cap : Nat) (ss : List ByteArray) (tail : ByteArray) (w : World) (hl : ss.length = n) (hn : n ≤ 9223372036854775807) (hs : Sl w A (ss.map Value.string)) (hss : ∀ s ∈ ss, s.size ≤ 9223372036854775807) :
    Calls Try.prog 11 #[.slice A n cap, .string tail] w fun e w' => e = .returned (.bool true) ∧ Below w.heap.size w w' := by
  subst hl
  obtain ⟨i0, hi, hz0, hz1, hz2⟩ := info_parts infoByteC
  obtain ⟨i9, hi', hz0', hz1', hz2'⟩ := info_parts infoStr
  have HC0 := Lib.hid (show Line.cuts [] ([] : List UInt8).length = ⟨0, false, ([] : List UInt8).length, []⟩ from rfl)
  go_enter Try.func11, Try.ntmps11
  go_wp2_with fail
  go_loopw [5, 6, 7, 8, 9, 10] (fun b l i _ _ _ wr => ∃ (j N c N' c' : Nat) (D D' : Option Addr) (bs : List UInt8) (ws : List (List UInt8)), j ≤ ss.length ∧ j ≤ 30 ∧ i = .int .i64 j ∧ b = .slice D N c ∧ l = .slice D' N' c' ∧ N ≤ 401 * j ∧ N' ≤ j ∧ Hid (Line.cuts bs bs.length = ⟨0, false, bs.length, ws⟩) ∧ Hid (OwnB wr w.heap.size 5 1 D N c (bs.map B8)) ∧ Hid (OwnB wr w.heap.size 9 1 D' N' c' (ws.map S8)) ∧ Below w.heap.size w wr) (fun _ _ i _ _ _ _ => 30 - (intOf i).toNat)
  case atStart => exact ⟨0, 0, 0, 0, 0, none, none, [], [], Nat.zero_le _, Nat.zero_le _, rfl, rfl, rfl, Nat.zero_le _, Nat.zero_le _, HC0, OwnB.nil _ _ _ _, OwnB.nil _ _ _ _, Below.refl _ _⟩
  case round =>
    clear HC0
    obtain ⟨j, N, c, N', c', D, D', bs, ws, hj, hj30, rfl, rfl, rfl, hN, hN', HC, HB, HW, hBl⟩ := hrel
    obtain ⟨wo, rfl⟩ : ∃ wo : World, wo = wr := ⟨_, rfl⟩
    by_cases hin : j < ss.length ∧ j < 30
    · obtain ⟨hlt, h30⟩ := hin
      have hg30 : decide ((j : Int) < 30) = true := decide_eq_true (by omega)
      obtain ⟨b, o, rfl, hca⟩ := (hs.below hBl).text hlt
      have hsz := hss _ (List.getElem_mem hlt)
      generalize ss[j] = s at hca hsz
      go_upto_if 29 with fail
      go_cut [8] (fun s8 wx => ∃ x : ByteArray, s8 = .string x ∧ x.size ≤ 400 ∧ wx = wo)
      case first =>
        by_cases h400 : 400 < s.size
        · go_wp2_with fail
          go_meet
          exact ⟨_, rfl, by rw [ByteArray.size_extract]; omega, rfl⟩
        · go_wp2_with fail
          go_meet
          exact ⟨s, rfl, by omega, rfl⟩
      case rest =>
        obtain ⟨x, rfl, hx, hw⟩ := hcut
        subst hw
        clear hca
        go_wp2_with fail
        go_loopw [9, 10] (fun cl k w2 => ∃ q : Nat, q ≤ x.size ∧ k = .int .i64 q ∧ cl = .bool (Line.noLf ((chars x).take q)) ∧ w2 = wc) (fun _ k _ => x.size - (intOf k).toNat)
        case atStart => exact ⟨0, Nat.zero_le _, rfl, rfl, rfl⟩
        case round =>
          obtain ⟨q, hq, rfl, rfl, hw⟩ := hrel
          subst hw
          by_cases hqx : q < x.size
          · have hsn : Line.noLf ((chars x).take (q + 1)) = (Line.noLf ((chars x).take q) && (x[q] != 10)) := by
              rw [chars_snoc x q hqx, Line.noLf_app]; simp [Line.noLf]
            generalize Line.noLf ((chars x).take q) = cl at hsn
            cases cl
            · have HV : Hid (Line.noLf ((chars x).take (q + 1)) = false) := by show _ = _; rw [hsn]; rfl
              clear hsn
              go_wp2_with fail
              go_roundw
              case rel => exact ⟨q + 1, by omega, by go_num, by rw [HV.out], trivial⟩
              case measure => simp [intOf]; omega
            · by_cases hu : x[q] = 10
              · have HV : Hid (Line.noLf ((chars x).take (q + 1)) = false) := by show _ = _; rw [hsn, hu]; rfl
                have hb : ((x[q].toNat : Int) != 10) = false := by rw [hu]; rfl
                clear hsn hu
                go_wp2_with fail
                go_roundw
                case rel => exact ⟨q + 1, by omega, by go_num, by rw [HV.out], trivial⟩
                case measure => simp [intOf]; omega
              · have HV : Hid (Line.noLf ((chars x).take (q + 1)) = true) := by show _ = _; rw [hsn, bne_iff_ne.2 hu]; rfl
                have hb : ((x[q].toNat : Int) != 10) = true := bne_iff_ne.2 (fun e => hu (UInt8.toNat.inj (by show x[q].toNat = 10; omega)))
                clear hsn hu
                go_wp2_with fail
                go_roundw
                case rel => exact ⟨q + 1, by omega, by go_num, by rw [HV.out], trivial⟩
                case measure => simp [intOf]; omega
          · obtain rfl : q = x.size := by omega
            rw [List.take_of_length_le (by rw [chars_length]; exact Nat.le_refl _)]
            have hszw := hBl.size
            generalize hcl : Line.noLf (chars x) = cl
            cases cl
            · clear hcl
              go_wp2_with fail
              go_roundw
              case rel => exact ⟨j + 1, N, c, N', c', D, D', bs, ws, by omega, by omega, by go_num, rfl, rfl, by omega, by omega, HC, HB, HW, hBl⟩
              case measure => simp [intOf]; omega
            · have HF := Lib.hid (Line.cuts_full bs (chars x) ws HC.out hcl)
              clear hcl
              have hxl := chars_length x
              rw [hxl] at HF
              have HXL := Lib.hid hxl
              clear hxl
              go_wp2_with (at_builtin; refine wpList_append_ownK (o := ⟨some 49, _, _, _, _, _⟩) rfl (.tmp 47) (.tmp 48) 24 9 rfl 5 i0 (.int .u8 0) 1 1 Try.underlying24 hi hz0 hz1 hz2 rfl w.heap.size D N c (bs.map B8) rfl HB.out (.string x) rfl x.size ((chars x).map B8) (Src.ofString _ Try.underlying9 x) (by omega) (by omega) w hBl hszw ?_)
              intro w3 D3 c3 HB3 HK3 hb3 hsz3
              have HW3 := Lib.hid (HK3.out.own_ne HB.out HW.out (by decide))
              clear HB HW HK3
              go_wp2_with (at_builtin; refine wpList_append_ownK (o := ⟨some 51, _, _, _, _, _⟩) rfl (.tmp 49) (.tmp 50) 24 24 rfl 5 i0 (.int .u8 0) 1 1 Try.underlying24 hi hz0 hz1 hz2 rfl w.heap.size D3 (N + x.size) c3 (bs.map B8 ++ (chars x).map B8) rfl (HB3.out.alloc _) (.slice (some ⟨w3.heap.size, 0, none⟩) 1 1) rfl 1 ([10].map B8) (srcSl Try.underlying24 rfl (Sl.new rfl rfl) (bytes_one _)) (by omega) (by omega) w (hb3.alloc (by omega) _) (by simp; omega) ?_)
              intro w4 D4 c4 HB4 HK4 hb4 hsz4
              have HW4 := Lib.hid (HK4.out.own_ne (HB3.out.alloc _) (HW3.out.alloc _) (by decide))
              have HB5 : Hid (OwnB w4 w.heap.size 5 1 D4 (N + x.size + 1) c4 ((bs ++ chars x ++ [10]).map B8)) := by show OwnB _ _ _ _ _ _ _ _; simpa [List.map_append, List.append_assoc] using HB4.out
              clear HB3 HW3 HK4 HB4 hb3 hsz3 hszw
              have hsz5 := hb4.size
              by_cases h200 : x.size ≤ 200
              · rw [if_pos h200] at HF
                have hd : decide ((x.size : Int) ≤ 200) = true := decide_eq_true (by omega)
                go_wp2_with (at_builtin; refine wpList_append_ownK (o := ⟨some 58, _, _, _, _, _⟩) rfl (.tmp 55) (.tmp 57) 51 51 rfl 9 i9 (.string .empty) 1 16 Try.underlying51 hi' hz0' hz1' hz2' rfl w.heap.size D' N' c' (ws.map S8) rfl (HW4.out.alloc _) (.slice (some ⟨w4.heap.size, 0, none⟩) 1 1) rfl 1 ([chars x].map S8) (srcSl Try.underlying51 rfl (Sl.new rfl rfl) (text_one _)) (by omega) (by omega) w (hb4.alloc (by omega) _) (by simp; omega) ?_)
                intro w5 D5 c5 HW5 HK5 hb5 hsz6
                have HB6 := Lib.hid (HK5.out.own_ne (HW4.out.alloc _) (HB5.out.alloc _) (by decide))
                have HW6 : Hid (OwnB w5 w.heap.size 9 1 D5 (N' + 1) c5 ((ws ++ [chars x]).map S8)) := by show OwnB _ _ _ _ _ _ _ _; rw [List.map_append]; exact HW5.out
                clear HW4 HB5 HK5 HW5
                go_wp2_with fail
                go_roundw
                case rel => exact ⟨j + 1, N + x.size + 1, c4, N' + 1, c5, D4, D5, _, _, by omega, by omega, by go_num, by go_num, by go_num, by omega, by omega, HF, HB6, HW6, hb5⟩
                case measure => simp [intOf]; omega
              · rw [if_neg h200] at HF
                have hd : decide ((x.size : Int) ≤ 200) = false := decide_eq_false (by omega)
                go_wp2_with fail
                go_roundw
                case rel => exact ⟨j + 1, N + x.size + 1, c4, N', c', D4, D', _, _, by omega, by omega, by go_num, by go_num, rfl, by omega, by omega, HF, HB5, HW4, hb4⟩
                case measure => simp [intOf]; omega
    · by_cases h1 : j < ss.length
      · have h2 : decide ((j : Int) < 30) = false := decide_eq_false (by omega)
        clear hin
        go_wp2_with fail
        go_loopw [5, 11] (fun b k wr => ∃ (q N2 c2 : Nat) (D2 : Option Addr) (t : List UInt8), q ≤ tail.size ∧ q ≤ 300 ∧ k = .int .i64 q ∧ b = .slice D2 N2 c2 ∧ N2 ≤ N + q ∧ Hid (Line.noLf t = true) ∧ Hid (OwnB wr w.heap.size 5 1 D2 N2 c2 ((bs ++ t).map B8)) ∧ Hid (OwnB wr w.heap.size 9 1 D' N' c' (ws.map S8)) ∧ Below w.heap.size w wr) (fun _ k _ => 300 - (intOf k).toNat)
        case atStart => exact ⟨0, N, c, D, [], Nat.zero_le _, Nat.zero_le _, rfl, rfl, Nat.le_refl _, (show _ = _ from rfl), by show OwnB _ _ _ _ _ _ _ _; rw [List.append_nil]; exact HB.out, HW, hBl⟩
        case round =>
          clear HB HW hBl
          obtain ⟨q, N2, c2, D2, t, hq, hq3, rfl, rfl, hN2, HT, HB, HW, hBl⟩ := hrel
          have hszw := hBl.size
          by_cases hqt : q < tail.size
          · by_cases hq300 : q < 300
            · have hg3 : decide ((q : Int) < 300) = true := decide_eq_true (by omega)
              by_cases hu : tail[q] = 10
              · have hb : ((tail[q].toNat : Int) != 10) = false := by rw [hu]; rfl
                clear hu
                go_wp2_with fail
                go_roundw
                case rel => exact ⟨q + 1, N2, c2, D2, t, by omega, by omega, by go_num, rfl, by omega, HT, HB, HW, hBl⟩
                case measure => simp [intOf]; omega
              · have hb : ((tail[q].toNat : Int) != 10) = true := bne_iff_ne.2 (fun e => hu (UInt8.toNat.inj (by show tail[q].toNat = 10; omega)))
                have HT2 : Hid (Line.noLf (t ++ [tail[q]]) = true) := by
                  show _ = _
                  rw [Line.noLf_app, HT.out]; simpa [Line.noLf] using hu
                clear hu
                go_wp2_with (at_builtin; refine wpList_append_ownK (o := ⟨some 78, _, _, _, _, _⟩) rfl (.tmp 73) (.tmp 77) 24 24 rfl 5 i0 (.int .u8 0) 1 1 Try.underlying24 hi hz0 hz1 hz2 rfl w.heap.size D2 N2 c2 ((bs ++ t).map B8) rfl (HB.out.alloc _) (.slice (some ⟨wr.heap.size, 0, none⟩) 1 1) rfl 1 ([tail[q]].map B8) (srcSl Try.underlying24 rfl (Sl.new rfl rfl) (bytes_one _)) (by omega) (by omega) w (hBl.alloc hszw _) (by simp; omega) ?_)
                intro w4 D4 c4 HB4 HK4 hb4 hsz4
                have HB5 : Hid (OwnB w4 w.heap.size 5 1 D4 (N2 + 1) c4 ((bs ++ (t ++ [tail[q]])).map B8)) := by show OwnB _ _ _ _ _ _ _ _; simpa [List.map_append, List.append_assoc] using HB4.out
                have HW5 := Lib.hid (HK4.out.own_ne (HB.out.alloc _) (HW.out.alloc _) (by decide))
                clear HB HW HK4 HB4
                go_wp2_with fail
                go_roundw
                case rel => exact ⟨q + 1, N2 + 1, c4, D4, t ++ [tail[q]], by omega, by omega, by go_num, by go_num, by omega, HT2, HB5, HW5, hb4⟩
                case measure => simp [intOf]; omega
            · have hg3 : decide ((q : Int) < 300) = false := decide_eq_false (by omega)
              have HE : Hid ((Line.cuts (bs ++ t) (bs ++ t).length).out = ws) := Line.cuts_tail bs t ws HC.out HT.out
              have HLb : Hid ((bs ++ t).length = N2) := by have := HB.out.len; rw [List.length_map, Nat.mul_one] at this; exact this
              have HLw : Hid (ws.length = N') := by have := HW.out.len; rw [List.length_map, Nat.mul_one] at this; exact this
              generalize bs ++ t = zs at HB HE HLb
              clear HC HT
              go_wp2_with fail
              refine (roomyB_calls D2 N2 c2 zs 10 _ HLb.out (by omega) HB.out.sl).mono ?_
              rintro e w4 ⟨rfl, hb4, hfull⟩
              have hB4 := hBl.trans (hb4.mono hszw)
              have HB4 := Lib.hid (HB.out.below hb4)
              have HW4 := Lib.hid (HW.out.below hb4)
              have hsl4 : Sl w4 (some ⟨wr.heap.size, 0, none⟩) (zs.map B8) := by
                have h := hfull.sl.take zs.length
                unfold rowB at h
                rw [List.take_append_of_le_length (by simp), List.take_of_length_le (by simp)] at h
                exact h
              have hfs := hfull.sl
              generalize wr.heap.size = g at hsl4 hfs
              clear HB HW hBl hb4 hfull
              go_wp2_with fail
              refine (cut_calls (some ⟨g, 0, none⟩) N2 (N2 + 80) zs _ HLb.out (by omega) (by omega) hsl4).mono ?_
              unfold TextsEnd
              rintro e w5 ⟨D5, n5, c5, rfl, HO5, hb5⟩
              rw [← HLb.out, HE.out] at HO5
              obtain rfl : n5 = N' := by have := HO5.len; rw [List.length_map, Nat.mul_one] at this; have := HLw.out; omega
              have hB5 := hB4.trans (hb5.mono hB4.size)
              have hsb5 := HB4.out.sl.below hb5
              have hsw5 := HW4.out.sl.below hb5
              have hfs5 := hfs.below hb5
              have hso5 := HO5.sl
              rw [S8_map] at hsw5 hso5
              clear HB4 HW4 hsl4 hfs hb5 HO5 hB4
              go_wp2_with fail
              refine (sameS_calls D5 D' n5 n5 c5 c' _ _ _ (by rw [List.length_map]; exact HLw.out) (by rw [List.length_map]; exact HLw.out) (by omega) (by omega) hso5 hsw5).mono ?_
              rintro e w6 ⟨rfl, q6, rfl⟩
              rw [eqL_self]
              clear hso5 hsw5
              go_wp2_with fail
              refine (intactB_calls (some ⟨g, 0, none⟩) D2 N2 (N2 + 80) (N2 + 80) c2 zs 10 _ HLb.out rfl (by omega) (hfs5.drewN q6) (hsb5.drewN q6) (by omega)).mono ?_
              rintro e w7 ⟨rfl, q7, rfl⟩
              have hB7 := below_drewN hB5 (q6 + q7)
              clear hfs5 hsb5 hB5
              go_wp2_with fail
              refine (lineRuns_calls _).mono ?_
              rintro e w8 ⟨rfl, hb8⟩
              go_wp2_with fail
              go_ret
              exact ⟨rfl, hB7.trans (hb8.mono hB7.size)⟩
          · have HE : Hid ((Line.cuts (bs ++ t) (bs ++ t).length).out = ws) := Line.cuts_tail bs t ws HC.out HT.out
            have HLb : Hid ((bs ++ t).length = N2) := by have := HB.out.len; rw [List.length_map, Nat.mul_one] at this; exact this
            have HLw : Hid (ws.length = N') := by have := HW.out.len; rw [List.length_map, Nat.mul_one] at this; exact this
            generalize bs ++ t = zs at HB HE HLb
            clear HC HT
            go_wp2_with fail
            refine (roomyB_calls D2 N2 c2 zs 10 _ HLb.out (by omega) HB.out.sl).mono ?_
            rintro e w4 ⟨rfl, hb4, hfull⟩
            have hB4 := hBl.trans (hb4.mono hszw)
            have HB4 := Lib.hid (HB.out.below hb4)
            have HW4 := Lib.hid (HW.out.below hb4)
            have hsl4 : Sl w4 (some ⟨wr.heap.size, 0, none⟩) (zs.map B8) := by
              have h := hfull.sl.take zs.length
              unfold rowB at h
              rw [List.take_append_of_le_length (by simp), List.take_of_length_le (by simp)] at h
              exact h
            have hfs := hfull.sl
            generalize wr.heap.size = g at hsl4 hfs
            clear HB HW hBl hb4 hfull
            go_wp2_with fail
            refine (cut_calls (some ⟨g, 0, none⟩) N2 (N2 + 80) zs _ HLb.out (by omega) (by omega) hsl4).mono ?_
            unfold TextsEnd
            rintro e w5 ⟨D5, n5, c5, rfl, HO5, hb5⟩
            rw [← HLb.out, HE.out] at HO5
            obtain rfl : n5 = N' := by have := HO5.len; rw [List.length_map, Nat.mul_one] at this; have := HLw.out; omega
            have hB5 := hB4.trans (hb5.mono hB4.size)
            have hsb5 := HB4.out.sl.below hb5
            have hsw5 := HW4.out.sl.below hb5
            have hfs5 := hfs.below hb5
            have hso5 := HO5.sl
            rw [S8_map] at hsw5 hso5
            clear HB4 HW4 hsl4 hfs hb5 HO5 hB4
            go_wp2_with fail
            refine (sameS_calls D5 D' n5 n5 c5 c' _ _ _ (by rw [List.length_map]; exact HLw.out) (by rw [List.length_map]; exact HLw.out) (by omega) (by omega) hso5 hsw5).mono ?_
            rintro e w6 ⟨rfl, q6, rfl⟩
            rw [eqL_self]
            clear hso5 hsw5
            go_wp2_with fail
            refine (intactB_calls (some ⟨g, 0, none⟩) D2 N2 (N2 + 80) (N2 + 80) c2 zs 10 _ HLb.out rfl (by omega) (hfs5.drewN q6) (hsb5.drewN q6) (by omega)).mono ?_
            rintro e w7 ⟨rfl, q7, rfl⟩
            have hB7 := below_drewN hB5 (q6 + q7)
            clear hfs5 hsb5 hB5
            go_wp2_with fail
            refine (lineRuns_calls _).mono ?_
            rintro e w8 ⟨rfl, hb8⟩
            go_wp2_with fail
            go_ret
            exact ⟨rfl, hB7.trans (hb8.mono hB7.size)⟩
      · clear hin
        go_wp2_with fail
        go_loopw [5, 11] (fun b k wr => ∃ (q N2 c2 : Nat) (D2 : Option Addr) (t : List UInt8), q ≤ tail.size ∧ q ≤ 300 ∧ k = .int .i64 q ∧ b = .slice D2 N2 c2 ∧ N2 ≤ N + q ∧ Hid (Line.noLf t = true) ∧ Hid (OwnB wr w.heap.size 5 1 D2 N2 c2 ((bs ++ t).map B8)) ∧ Hid (OwnB wr w.heap.size 9 1 D' N' c' (ws.map S8)) ∧ Below w.heap.size w wr) (fun _ k _ => 300 - (intOf k).toNat)
        case atStart => exact ⟨0, N, c, D, [], Nat.zero_le _, Nat.zero_le _, rfl, rfl, Nat.le_refl _, (show _ = _ from rfl), by show OwnB _ _ _ _ _ _ _ _; rw [List.append_nil]; exact HB.out, HW, hBl⟩
        case round =>
          clear HB HW hBl
          obtain ⟨q, N2, c2, D2, t, hq, hq3, rfl, rfl, hN2, HT, HB, HW, hBl⟩ := hrel
          have hszw := hBl.size
          by_cases hqt : q < tail.size
          · by_cases hq300 : q < 300
            · have hg3 : decide ((q : Int) < 300) = true := decide_eq_true (by omega)
              by_cases hu : tail[q] = 10
              · have hb : ((tail[q].toNat : Int) != 10) = false := by rw [hu]; rfl
                clear hu
                go_wp2_with fail
                go_roundw
                case rel => exact ⟨q + 1, N2, c2, D2, t, by omega, by omega, by go_num, rfl, by omega, HT, HB, HW, hBl⟩
                case measure => simp [intOf]; omega
              · have hb : ((tail[q].toNat : Int) != 10) = true := bne_iff_ne.2 (fun e => hu (UInt8.toNat.inj (by show tail[q].toNat = 10; omega)))
                have HT2 : Hid (Line.noLf (t ++ [tail[q]]) = true) := by
                  show _ = _
                  rw [Line.noLf_app, HT.out]; simpa [Line.noLf] using hu
                clear hu
                go_wp2_with (at_builtin; refine wpList_append_ownK (o := ⟨some 78, _, _, _, _, _⟩) rfl (.tmp 73) (.tmp 77) 24 24 rfl 5 i0 (.int .u8 0) 1 1 Try.underlying24 hi hz0 hz1 hz2 rfl w.heap.size D2 N2 c2 ((bs ++ t).map B8) rfl (HB.out.alloc _) (.slice (some ⟨wr.heap.size, 0, none⟩) 1 1) rfl 1 ([tail[q]].map B8) (srcSl Try.underlying24 rfl (Sl.new rfl rfl) (bytes_one _)) (by omega) (by omega) w (hBl.alloc hszw _) (by simp; omega) ?_)
                intro w4 D4 c4 HB4 HK4 hb4 hsz4
                have HB5 : Hid (OwnB w4 w.heap.size 5 1 D4 (N2 + 1) c4 ((bs ++ (t ++ [tail[q]])).map B8)) := by show OwnB _ _ _ _ _ _ _ _; simpa [List.map_append, List.append_assoc] using HB4.out
                have HW5 := Lib.hid (HK4.out.own_ne (HB.out.alloc _) (HW.out.alloc _) (by decide))
                clear HB HW HK4 HB4
                go_wp2_with fail
                go_roundw
                case rel => exact ⟨q + 1, N2 + 1, c4, D4, t ++ [tail[q]], by omega, by omega, by go_num, by go_num, by omega, HT2, HB5, HW5, hb4⟩
                case measure => simp [intOf]; omega
            · have hg3 : decide ((q : Int) < 300) = false := decide_eq_false (by omega)
              have HE : Hid ((Line.cuts (bs ++ t) (bs ++ t).length).out = ws) := Line.cuts_tail bs t ws HC.out HT.out
              have HLb : Hid ((bs ++ t).length = N2) := by have := HB.out.len; rw [List.length_map, Nat.mul_one] at this; exact this
              have HLw : Hid (ws.length = N') := by have := HW.out.len; rw [List.length_map, Nat.mul_one] at this; exact this
              generalize bs ++ t = zs at HB HE HLb
              clear HC HT
              go_wp2_with fail
              refine (roomyB_calls D2 N2 c2 zs 10 _ HLb.out (by omega) HB.out.sl).mono ?_
              rintro e w4 ⟨rfl, hb4, hfull⟩
              have hB4 := hBl.trans (hb4.mono hszw)
              have HB4 := Lib.hid (HB.out.below hb4)
              have HW4 := Lib.hid (HW.out.below hb4)
              have hsl4 : Sl w4 (some ⟨wr.heap.size, 0, none⟩) (zs.map B8) := by
                have h := hfull.sl.take zs.length
                unfold rowB at h
                rw [List.take_append_of_le_length (by simp), List.take_of_length_le (by simp)] at h
                exact h
              have hfs := hfull.sl
              generalize wr.heap.size = g at hsl4 hfs
              clear HB HW hBl hb4 hfull
              go_wp2_with fail
              refine (cut_calls (some ⟨g, 0, none⟩) N2 (N2 + 80) zs _ HLb.out (by omega) (by omega) hsl4).mono ?_
              unfold TextsEnd
              rintro e w5 ⟨D5, n5, c5, rfl, HO5, hb5⟩
              rw [← HLb.out, HE.out] at HO5
              obtain rfl : n5 = N' := by have := HO5.len; rw [List.length_map, Nat.mul_one] at this; have := HLw.out; omega
              have hB5 := hB4.trans (hb5.mono hB4.size)
              have hsb5 := HB4.out.sl.below hb5
              have hsw5 := HW4.out.sl.below hb5
              have hfs5 := hfs.below hb5
              have hso5 := HO5.sl
              rw [S8_map] at hsw5 hso5
              clear HB4 HW4 hsl4 hfs hb5 HO5 hB4
              go_wp2_with fail
              refine (sameS_calls D5 D' n5 n5 c5 c' _ _ _ (by rw [List.length_map]; exact HLw.out) (by rw [List.length_map]; exact HLw.out) (by omega) (by omega) hso5 hsw5).mono ?_
              rintro e w6 ⟨rfl, q6, rfl⟩
              rw [eqL_self]
              clear hso5 hsw5
              go_wp2_with fail
              refine (intactB_calls (some ⟨g, 0, none⟩) D2 N2 (N2 + 80) (N2 + 80) c2 zs 10 _ HLb.out rfl (by omega) (hfs5.drewN q6) (hsb5.drewN q6) (by omega)).mono ?_
              rintro e w7 ⟨rfl, q7, rfl⟩
              have hB7 := below_drewN hB5 (q6 + q7)
              clear hfs5 hsb5 hB5
              go_wp2_with fail
              refine (lineRuns_calls _).mono ?_
              rintro e w8 ⟨rfl, hb8⟩
              go_wp2_with fail
              go_ret
              exact ⟨rfl, hB7.trans (hb8.mono hB7.size)⟩
          · have HE : Hid ((Line.cuts (bs ++ t) (bs ++ t).length).out = ws) := Line.cuts_tail bs t ws HC.out HT.out
            have HLb : Hid ((bs ++ t).length = N2) := by have := HB.out.len; rw [List.length_map, Nat.mul_one] at this; exact this
            have HLw : Hid (ws.length = N') := by have := HW.out.len; rw [List.length_map, Nat.mul_one] at this; exact this
            generalize bs ++ t = zs at HB HE HLb
            clear HC HT
            go_wp2_with fail
            refine (roomyB_calls D2 N2 c2 zs 10 _ HLb.out (by omega) HB.out.sl).mono ?_
            rintro e w4 ⟨rfl, hb4, hfull⟩
            have hB4 := hBl.trans (hb4.mono hszw)
            have HB4 := Lib.hid (HB.out.below hb4)
            have HW4 := Lib.hid (HW.out.below hb4)
            have hsl4 : Sl w4 (some ⟨wr.heap.size, 0, none⟩) (zs.map B8) := by
              have h := hfull.sl.take zs.length
              unfold rowB at h
              rw [List.take_append_of_le_length (by simp), List.take_of_length_le (by simp)] at h
              exact h
            have hfs := hfull.sl
            generalize wr.heap.size = g at hsl4 hfs
            clear HB HW hBl hb4 hfull
            go_wp2_with fail
            refine (cut_calls (some ⟨g, 0, none⟩) N2 (N2 + 80) zs _ HLb.out (by omega) (by omega) hsl4).mono ?_
            unfold TextsEnd
            rintro e w5 ⟨D5, n5, c5, rfl, HO5, hb5⟩
            rw [← HLb.out, HE.out] at HO5
            obtain rfl : n5 = N' := by have := HO5.len; rw [List.length_map, Nat.mul_one] at this; have := HLw.out; omega
            have hB5 := hB4.trans (hb5.mono hB4.size)
            have hsb5 := HB4.out.sl.below hb5
            have hsw5 := HW4.out.sl.below hb5
            have hfs5 := hfs.below hb5
            have hso5 := HO5.sl
            rw [S8_map] at hsw5 hso5
            clear HB4 HW4 hsl4 hfs hb5 HO5 hB4
            go_wp2_with fail
            refine (sameS_calls D5 D' n5 n5 c5 c' _ _ _ (by rw [List.length_map]; exact HLw.out) (by rw [List.length_map]; exact HLw.out) (by omega) (by omega) hso5 hsw5).mono ?_
            rintro e w6 ⟨rfl, q6, rfl⟩
            rw [eqL_self]
            clear hso5 hsw5
            go_wp2_with fail
            refine (intactB_calls (some ⟨g, 0, none⟩) D2 N2 (N2 + 80) (N2 + 80) c2 zs 10 _ HLb.out rfl (by omega) (hfs5.drewN q6) (hsb5.drewN q6) (by omega)).mono ?_
            rintro e w7 ⟨rfl, q7, rfl⟩
            have hB7 := below_drewN hB5 (q6 + q7)
            clear hfs5 hsb5 hB5
            go_wp2_with fail
            refine (lineRuns_calls _).mono ?_
            rintro e w8 ⟨rfl, hb8⟩
            go_wp2_with fail
            go_ret
            exact ⟨rfl, hB7.trans (hb8.mono hB7.size)⟩
end Go.Proofs.Ytepfmmphajdlfab
