/-
  The contract of yard's Files.
-/
import Derived.Test.YtbmgeomndfodpaaYardFind
namespace Go.Proofs.Ytbmgeomndfodpaa
open Go.RowKit Go.Mem Go.Proofs

/-- a told file's cells -/
def cellsG (x : Int × ByteArray × Int) : List Value := [.int .i64 x.1, .string x.2.1, .int .i64 x.2.2]
def flatG (l : List (Int × ByteArray × Int)) : List Value := l.flatMap cellsG
theorem flatG_len (l : List (Int × ByteArray × Int)) : (flatG l).length = l.length * 3 := flat_len (F := cellsG) (m := 3) (fun _ => rfl) l
theorem flatG_app (l k : List (Int × ByteArray × Int)) : flatG (l ++ k) = flatG l ++ flatG k := List.flatMap_append
theorem flatG_at {l : List (Int × ByteArray × Int)} {k : Nat} {x : Int × ByteArray × Int} (h : l[k]? = some x) : (flatG l)[k * 3]? = some (.int .i64 x.1) ∧ (flatG l)[k * 3 + 1]? = some (.string x.2.1) ∧ (flatG l)[k * 3 + 2]? = some (.int .i64 x.2.2) :=
  ⟨by have := flat_at (F := cellsG) (m := 3) (fun _ => rfl) h (q := 0) (by decide); exact this, by have := flat_at (F := cellsG) (m := 3) (fun _ => rfl) h (q := 1) (by decide); exact this, by have := flat_at (F := cellsG) (m := 3) (fun _ => rfl) h (q := 2) (by decide); exact this⟩
theorem flatG_one (l : List (Int × ByteArray × Int)) : ∀ u ∈ flatG l, u.oneCell' = true := by
  intro u hu
  obtain ⟨x, _, hx⟩ := List.mem_flatMap.1 hu
  simp [cellsG] at hx
  rcases hx with rfl | rfl | rfl <;> rfl
def tellM (x : MF) : Int × ByteArray × Int := (x.ino, x.name, (x.data.length : Int))
def filesM (m : List MF) : List (Int × ByteArray × Int) := m.map tellM
theorem infoFile : (Try.prog.info? 31).map (fun i => (i.zero, i.size, i.bytes)) = some (some (.agg #[.int .i64 0, .string ⟨#[]⟩, .int .i64 0]), 3, 32) := by kernel_rfl
/-- a list of told files of the call's own -/
def FilesEnd (w0 : World) (l : List (Int × ByteArray × Int)) (e : Ending) (w' : World) : Prop := ∃ (D : Option Addr) (c : Nat), e = .returned (.slice D l.length c) ∧ OwnB w' w0.heap.size 31 3 D l.length c (flatG l) ∧ Below w0.heap.size w0 w'
set_option maxRecDepth 100000 in
set_option maxHeartbeats 1600000 in
theorem files_calls {w : World} {B y : Nat} {m : List MF} {tk : List (Int × Int)} {S : Nat → Prop} (h : YS w B y m tk S) (hg : Gd m) :
    Calls Try.prog 19 #[.pointer (some ⟨y, 0, none⟩)] w (FilesEnd w (filesM m)) := by
  obtain ⟨pF, pT, DK, DV, DK2, DV2, vs, h, rfl⟩ := h
  have hlen := hg.len
  have hm : m.length ≤ 1000000 := by omega
  obtain ⟨i0, hii, hz0, hz1, hz2⟩ := info_parts infoFile
  have HK := Lib.hid (keysIF_calls B pF DK DV (m.map MF.ino) vs w h.f (by rw [List.length_map]; exact hm))
  unfold KeysEndIF at HK
  rw [List.length_map] at HK
  have c0 := h.b.cell 0
  simp only [List.getElem?_cons_zero] at c0
  have HY := Lib.hid h
  have HM := Lib.hid hm
  have hfl : (filesM m).length = m.length := by unfold filesM; rw [List.length_map]
  have HFL := Lib.hid hfl
  clear h hfl
  obtain ⟨n, hnl⟩ : ∃ n, n = m.length := ⟨_, rfl⟩
  have HL := Lib.hid hnl
  rw [← hnl] at HK hm hlen
  clear hnl
  go_enter Try.func19, Try.ntmps19
  go_wp2_with fail
  refine HK.out.mono ?_
  rintro e w1 ⟨D, c, rfl, o1, b1⟩
  have HO := Lib.hid o1
  have HB := Lib.hid b1
  clear o1 b1 HK c0
  go_wp2_with fail
  go_loopw [3, 5, 12] (fun a _ i wr => ∃ (k : Nat) (E : Option Addr) (ec : Nat), k ≤ n ∧ i = .int .i64 k ∧ a = .slice E k ec ∧ Hid (OwnB wr w.heap.size 31 3 E k ec (flatG (filesM (m.take k)))) ∧ Hid (OwnB wr w.heap.size 3 1 D n c ((m.map MF.ino).map (Value.int .i64))) ∧ Hid (Below w.heap.size w wr)) (fun _ _ i _ => n - (intOf i).toNat)
  case atStart => exact ⟨0, none, 0, Nat.zero_le _, rfl, rfl, OwnB.nil _ _ _ _, HO, HB⟩
  case round =>
    obtain ⟨k, E, ec, hk, rfl, rfl, HE, HO2, HW⟩ := hrel
    by_cases hlt : k < n
    · have i0' : (0 : Int) ≤ (k : Int) := by omega
      have i1 : (k : Int) < (n : Int) := by omega
      have hkl : k < m.length := by rw [← HL.out]; exact hlt
      have hw1 : IntKind.i64.wrap ((k : Int) + 1) = (k : Int) + 1 := by rw [IntKind.wrap_i64]; omega
      obtain ⟨b, o, rfl, hc⟩ := HO2.out.sl.at_ (k := k) (by simpa using hkl)
      rw [List.getElem_map, List.getElem_map] at hc
      have hx : m[k]? = some m[k] := List.getElem?_eq_getElem hkl
      have HT := Lib.hid ((HY.out.below HW.out).told_calls HM.out hx)
      unfold toldM at HT
      have HS := Lib.hid (show flatG (filesM (m.take (k + 1))) = flatG (filesM (m.take k)) ++ flatG [(m[k].ino, m[k].name, (m[k].data.length : Int))] from by
        rw [← flatG_app]; congr 1
        unfold filesM
        rw [List.take_add_one, hx, List.map_append]; rfl)
      clear hx
      generalize m[k].ino = v1 at *
      generalize m[k].name = v2 at *
      generalize (m[k].data.length : Int) = v3 at *
      have hs0 := HW.out.size
      go_wp2_with fail
      refine HT.out.mono ?_
      rintro e w2 ⟨rfl, b2⟩
      have hB2 : Below w.heap.size w w2 := HW.out.trans (b2.mono hs0)
      have hB3 : Below w.heap.size w (w2.alloc (.cells #[.int .i64 v1, .string v2, .int .i64 v3] 31)) := hB2.alloc hB2.size _
      have HOE := Lib.hid ((HE.out.below b2).alloc (.cells #[.int .i64 v1, .string v2, .int .i64 v3] 31))
      have HOK := Lib.hid ((HO2.out.below b2).alloc (.cells #[.int .i64 v1, .string v2, .int .i64 v3] 31))
      have HSR : Hid (Src Try.prog 3 32 (.slice (some ⟨w2.heap.size, 0, none⟩) 1 1) 1 (flatG [(v1, v2, v3)]) (w2.alloc (.cells #[.int .i64 v1, .string v2, .int .i64 v3] 31))) := (show Src _ _ _ _ _ _ _ from srcOfSl Try.underlying32 rfl (fun e => by cases e) (Sl.new rfl rfl) (fun e => by cases e) (flatG_one _))
      have hs3 := hB3.size
      clear hB2 b2 HT HE HO2 HW hc
      go_wp2_with (at_builtin; refine wpList_append_ownK (o := ⟨some 21, _, _, _, _, _⟩) rfl (.tmp 16) (.tmp 20) 32 32 rfl 31 i0 (.agg #[.int .i64 0, .string ⟨#[]⟩, .int .i64 0]) 3 32 Try.underlying32 hii hz0 hz1 hz2 rfl w.heap.size E k ec (flatG (filesM (m.take k))) rfl HOE.out (.slice (some ⟨w2.heap.size, 0, none⟩) 1 1) rfl 1 (flatG [(v1, v2, v3)]) HSR.out (by omega) (by omega) w hB3 hs3 ?_)
      intro w3 D3 c3 HO3 HK3 hb4 hsz3
      have HW3 := Lib.hid hb4
      have HO4 := Lib.hid (HK3.out.own_ne HOE.out HOK.out (by decide))
      have HO5 : Hid (OwnB w3 w.heap.size 31 3 D3 (k + 1) c3 (flatG (filesM (m.take (k + 1))))) := (show OwnB _ _ _ _ _ _ _ _ from by rw [HS.out]; exact HO3.out)
      clear HO3 HK3 hb4 HOE HOK HSR HS hB3 hs3 hsz3
      go_wp2_with fail
      exact ⟨⟨k + 1, D3, c3, hlt, rfl, rfl, HO5, HO4, HW3⟩, by simp [intOf]; omega⟩
    · have i1 : ¬ ((k : Int) < (n : Int)) := by omega
      obtain rfl : k = n := by omega
      have HFin : Hid (FilesEnd w (filesM m) (.returned (.slice E k ec)) wr) := (show FilesEnd _ _ _ _ from ⟨E, ec, by rw [HFL.out, ← HL.out], by
        have := HE.out
        rw [List.take_of_length_le (by rw [← HL.out]; omega)] at this
        rw [HFL.out, ← HL.out]; exact this, HW.out⟩)
      clear HE HO2 HW
      go_wp2_with fail
      go_ret
      exact HFin.out
end Go.Proofs.Ytbmgeomndfodpaa
