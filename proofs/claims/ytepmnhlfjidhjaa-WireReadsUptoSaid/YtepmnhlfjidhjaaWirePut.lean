/-
  The contracts of wire.put, Num, Text and Flag.
-/
import Derived.Test.YtepmnhlfjidhjaaApp
import Derived.Test.YtepmnhlfjidhjaaShelf
import Derived.Test.YtepmnhlfjidhjaaWireM
namespace Go.Proofs.Ytepmnhlfjidhjaa
open Go.RowKit Go.Mem

theorem infoU8 : (Try.prog.info? 5).map (fun i => (i.zero, i.size, i.bytes)) = some (some (.int .u8 0), 1, 1) := by kernel_rfl

theorem digit_cell (x j : Nat) : [UInt8.ofNat (x / 256 ^ j)].map B8 = (#[Value.int .u8 ((x : Int) / 2 ^ (8 * j) % 256)] : Array Value).toList := by
  have e : (2 : Int) ^ (8 * j) = ((256 ^ j : Nat) : Int) := by
    have h : (256 : Nat) ^ j = 2 ^ (8 * j) := by rw [Nat.pow_mul]
    rw [h]; simp
  simp only [List.map_cons, List.map_nil, B8]
  congr 2
  rw [e, UInt8.toNat_ofNat']
  omega
set_option maxRecDepth 100000 in
set_option maxHeartbeats 1600000 in
theorem put_calls (A : Option Addr) (n cap : Nat) (bs : List UInt8) (x : Nat) (s : ByteArray) (w : World) (hl : bs.length = n) (hx : x < 2 ^ 63) (hs : Sl w A (bs.map B8)) (hn : n ≤ 140737488351232) (hsz : s.size ≤ 140737488351232) :
    Calls Try.prog 131 #[.slice A n cap, .int .i64 (x : Int), .string s] w fun e w' =>
      ∃ N, N = n + 1 + Wire.nb x + s.size ∧ e = .returned (.slice (some ⟨w.heap.size, 0, none⟩) N N) ∧ Below w.heap.size w w' ∧ Blk w' w.heap.size 5 ((bs ++ (Wire.num x ++ s.data.toList)).map B8) := by
  subst hl
  obtain ⟨i0, hi, hz0, hz1, hz2⟩ := info_parts infoU8
  have hk8 := Wire.nb_le x hx
  have hbl := Wire.bitLen_le x (by omega)
  have hkd : (Lib.bitLen x + 7) / 8 = Wire.nb x := rfl
  have HN : Hid (Wire.num x = UInt8.ofNat (Wire.nb x) :: Wire.digs x (Wire.nb x)) := rfl
  generalize Wire.nb x = k at hk8 hkd HN
  generalize Wire.num x = nm at HN
  generalize hLx : Lib.bitLen x = L at hbl hkd
  have HKD := Lib.hid hkd
  obtain ⟨N, hN⟩ : ∃ N, N = bs.length + 1 + k + s.size := ⟨_, rfl⟩
  have HNN := Lib.hid hN
  have hmk : ∀ u : World, (Instr.makeSlice 24 (.int .i64 0) (.int .i64 ((bs.length : Int) + 1 + ((L : Int) + 7) / 8 + (s.size : Int)))).run Try.prog u =
      .ok (.slice (some ⟨u.heap.size, 0, none⟩) 0 N) (u.alloc (.cells (madeCells (Value.int .u8 0).cells (N * 1)) 5)) := fun u => by
    have h := run_make (P := Try.prog) u 24 5 i0 (.int .u8 0) Try.underlying24 hi hz0 .i64 .i64 0 ((bs.length : Int) + 1 + ((L : Int) + 7) / 8 + (s.size : Int)) (by omega) (by omega) (by rw [hz2]; omega) (by omega)
    have e : ((bs.length : Int) + 1 + ((L : Int) + 7) / 8 + (s.size : Int)).toNat = N := by omega
    rw [e, hz1] at h
    exact h
  have hml : (madeCells (Value.int .u8 0).cells (N * 1)).toList.length = N := by simp [madeCells]
  generalize madeCells (Value.int .u8 0).cells (N * 1) = M at hmk hml
  have HML := Lib.hid hml
  have hNle : bs.length + 1 + k + s.size ≤ N := by omega
  clear hml hN hkd
  have hLC : ∀ W : World, Calls Try.prog 140 #[.int .u64 (x : Int)] W fun e w' => e = .returned (.int .i64 (L : Int)) ∧ W = w' := fun W => (len64_calls x W (by omega) (by omega)).mono fun e w' ⟨he, hw⟩ => ⟨by rw [he, Int.toNat_natCast, hLx], hw.symm⟩
  clear hLx
  have HLC := Lib.hid hLC
  clear hLC
  go_enter Try.func131, Try.ntmps131
  go_wp2_with fail
  refine (HLC.out w).mono ?_
  rintro e w1 ⟨rfl, rfl⟩
  go_wp2_with (at_builtin; refine wpList_append_pre (o := ⟨some 26, _, _, _, _, _⟩) rfl (.tmp 24) (.tmp 25) 24 24 rfl 5 i0 Try.underlying24 hi hz1 w.heap.size 0 N [] M.toList rfl (Blk.new w _ M) rfl (by have := HML.out; omega) (.slice A bs.length cap) rfl bs.length (bs.map B8) (srcSl Try.underlying24 (by simp) (hs.alloc _) (bytes_one bs)) (by omega) w.heap.size w ((Below.refl _ _).alloc (Nat.le_refl _) _) (by simp) (Nat.le_refl _) ?_)
  intro w2 sp2 HB2 HL2 hb2 hz2'
  have hw2 : w.heap.size + 1 ≤ w2.heap.size := by rw [hz2']; simp
  clear hz2' hmk
  go_wp2_with (at_builtin; refine wpList_append_pre (o := ⟨some 31, _, _, _, _, _⟩) rfl (.tmp 27) (.tmp 30) 24 24 rfl 5 i0 Try.underlying24 hi hz1 w.heap.size bs.length N (bs.map B8) sp2 rfl (HB2.out.alloc _) (by simp) (by have := HL2.out; omega) (.slice (some ⟨w2.heap.size, 0, none⟩) 1 1) rfl 1 ([UInt8.ofNat k].map B8) (srcSl Try.underlying24 rfl (Sl.new rfl (by have := HKD.out; simp [B8]; omega)) (bytes_one _)) (by omega) w.heap.size w (hb2.alloc (by omega) _) (by simp; omega) (Nat.le_refl _) ?_)
  intro w3 sp3 HB3 HL3 hb3 hz3
  have hw3 : w.heap.size + 1 ≤ w3.heap.size := by rw [hz3]; omega
  clear hz3 hw2 hb2 HB2 HL2 HML hs
  have HB4 : Hid (Blk w3 w.heap.size 5 ((bs ++ UInt8.ofNat k :: []).map B8 ++ sp3)) := by
    have h := HB3.out
    show Blk _ _ _ _
    simpa using h
  clear HB3
  go_wp2_with fail
  go_loopw [8, 9] (fun v i wr => ∃ (j : Nat) (done : List UInt8) (sp : List Value), done.length + j = k ∧ i = .int .i64 ((j : Int) - 1) ∧ v = .slice (some ⟨w.heap.size, 0, none⟩) (bs.length + 1 + done.length) N ∧ Hid (done ++ Wire.digs x j = Wire.digs x k) ∧
      Hid (Blk wr w.heap.size 5 ((bs ++ UInt8.ofNat k :: done).map B8 ++ sp)) ∧ Hid (bs.length + 1 + done.length + sp.length = N) ∧ Below w.heap.size w wr ∧ w.heap.size + 1 ≤ wr.heap.size) (fun _ i _ => (intOf i + 1).toNat)
  case atStart =>
    refine ⟨k, [], sp3, by simp, ?_, rfl, rfl, HB4, HL3, hb3, hw3⟩
    have := HKD.out
    congr 1; omega
  case round =>
    obtain ⟨j, done, sp, hjk, rfl, rfl, HD, HB, HL, hb, hwr⟩ := hrel
    clear hb3 hw3 HB4 HL3
    cases j with
    | succ j =>
      have e0 : (((j + 1 : Nat) : Int) - 1) = (j : Int) := by omega
      rw [e0]
      have hHL := HL.out
      go_wp2_with (at_builtin; refine wpList_append_pre (o := ⟨some 45, _, _, _, _, _⟩) rfl (.tmp 38) (.tmp 44) 24 24 rfl 5 i0 Try.underlying24 hi hz1 w.heap.size (bs.length + 1 + done.length) N ((bs ++ UInt8.ofNat k :: done).map B8) sp rfl (HB.out.alloc _) (by simp; omega) (by omega) (.slice (some ⟨wr.heap.size, 0, none⟩) 1 1) rfl 1 ([UInt8.ofNat (x / 256 ^ j)].map B8) (srcSl Try.underlying24 rfl (Sl.new rfl (digit_cell x j)) (bytes_one _)) (by omega) w.heap.size w (hb.alloc (by omega) _) (by simp; omega) (Nat.le_refl _) ?_)
      intro w5 sp5 HB5 HL5 hb5 hz5
      have hw5 : w.heap.size + 1 ≤ w5.heap.size := by rw [hz5]; simp; omega
      have HB6 : Hid (Blk w5 w.heap.size 5 ((bs ++ UInt8.ofNat k :: (done ++ [UInt8.ofNat (x / 256 ^ j)])).map B8 ++ sp5)) := by
        have h := HB5.out
        show Blk _ _ _ _
        simpa using h
      have HD6 : Hid ((done ++ [UInt8.ofNat (x / 256 ^ j)]) ++ Wire.digs x j = Wire.digs x k) := by
        show _ = _
        rw [← HD.out, Wire.digs_succ]; simp
      clear hz5 HB5 HB hb hwr HL HD hHL
      go_wp2_with fail
      go_roundw
      case rel => exact ⟨j, done ++ [UInt8.ofNat (x / 256 ^ j)], sp5, by simp; omega, rfl, by simp; omega, HD6, HB6, (show _ = _ by have := HL5.out; simp; omega), hb5, hw5⟩
      case measure => simp [intOf]
    | zero =>
      have e0 : (((0 : Nat) : Int) - 1) = -1 := rfl
      rw [e0]
      have hdk : done.length = k := by omega
      have e9 : Hid (bs.length + 1 + done.length + s.size = N) := by have := HNN.out; show _ = _; omega
      have hle9 : bs.length + 1 + done.length + s.size ≤ N := by have := e9.out; omega
      have HD7 : Hid (done = Wire.digs x k) := by
        show _ = _
        rw [← HD.out]; simp [Wire.digs]
      clear hdk hjk
      go_wp2_with (at_builtin; refine wpList_append_pre (o := ⟨some 48, _, _, _, _, _⟩) rfl (.tmp 46) (.tmp 47) 24 9 rfl 5 i0 Try.underlying24 hi hz1 w.heap.size (bs.length + 1 + done.length) N ((bs ++ UInt8.ofNat k :: done).map B8) sp rfl HB.out (by simp; omega) (by have := HL.out; omega) (.string s) rfl s.size (byteCells s) (Src.ofString _ Try.underlying9 s) (by omega) w.heap.size w hb (by omega) (Nat.le_refl _) ?_)
      intro w5 sp5 HB5 HL5 hb5 hz5
      have HB6 : Hid (Blk w5 w.heap.size 5 ((bs ++ (nm ++ s.data.toList)).map B8)) := by
        have h := HB5.out
        have hs5 : sp5 = [] := List.eq_nil_of_length_eq_zero (by have h1 := HL5.out; have h2 := e9.out; omega)
        rw [hs5, List.append_nil] at h
        rw [HN.out, ← HD7.out]
        have e : (bs ++ (UInt8.ofNat k :: done ++ s.data.toList)).map B8 = (bs ++ UInt8.ofNat k :: done).map B8 ++ byteCells s := by
          rw [← List.append_assoc, List.map_append (l₁ := bs ++ UInt8.ofNat k :: done)]; rfl
        show Blk _ _ _ _
        rw [e]; simpa using h
      rw [e9.out]
      clear HB5 HB HL HL5 hz5 hle9
      go_wp2_with fail
      go_ret
      exact ⟨N, HNN.out, rfl, hb5, HB6.out⟩
end Go.Proofs.Ytepmnhlfjidhjaa
