/-
  WireOne: bytes that are read as numbers to the end are those that write them.
-/
import Derived.Test.YtjmiejcgahajfaaWireRuns
import Derived.Test.YtjmiejcgahajfaaWireBackM
namespace Go.Proofs.Ytjmiejcgahajfaa
open Go.RowKit Go.Mem

set_option maxHeartbeats 4000000 in
theorem wireOne_calls (A : Option Addr) (n c : Nat) (bs : List UInt8) (w : World) (hl : bs.length = n) (hs : Sl w A (bs.map B8)) (hn : n ≤ 1048576) :
    Calls Try.prog 8 #[.slice A n c] w fun e w' => e = .returned (.bool true) ∧ Below w.heap.size w w' := by
  subst hl
  have hib := it_bytes bs 0 0 (bs.length : Int)
  have HR := Lib.hid (read_calls A bs.length c bs w rfl hs (by omega))
  have HI := Lib.hid (fun p W (h : Rd W p bs 0 0) => items_calls p bs 0 0 (bs.length : Int) W h (by omega) (by omega))
  generalize it bs 0 0 (bs.length : Int) = r at hib HI
  obtain ⟨zs, a2, e2⟩ := r
  have HB := Lib.hid hib
  clear hib
  go_enter Try.func8, Try.ntmps8
  go_wp2_with fail
  refine HR.out.mono ?_
  rintro e w1 ⟨p, rfl, hp, r1, b1⟩
  go_wp2_with fail
  refine (HI.out p w1 r1).mono ?_
  rintro e w2 ⟨D, N, c2, rfl, ho2, r2, t2⟩
  have hpl := r1.lt
  have b2 := below_grown b1 t2.1 b1.size hp
  have HO2 := Lib.hid ho2
  clear ho2 t2 HI HR
  go_wp2_with fail
  refine (end_calls p bs a2 e2 w2 r2).mono ?_
  unfold After
  rintro e w3 ⟨rfl, r3, t3⟩
  have b3 := below_grown b2 t3.1 b2.size hp
  have HO3 : Hid (OwnB w3 w1.heap.size 3 1 D N c2 (zs.map I64)) := HO2.out.keep fun g hg hl => t3.1.block g hl (fun e => by injection e with e; omega)
  have hle := r2.le
  clear t3 HO2 r1 b1 b2
  by_cases he : endE bs a2 e2 = 0
  · have h1 : e2 = 0 ∧ a2 = bs.length := by
      unfold endE at he
      split at he
      · cases he
      · omega
    obtain ⟨rfl, rfl⟩ := h1
    obtain ⟨hz, hd, hzl⟩ := HB.out rfl
    simp only [List.drop_zero, List.drop_length, List.append_nil] at hd
    have hN : zs.length = N := by have := HO3.out.len; rw [List.length_map, Nat.mul_one] at this; exact this
    have HL := Lib.hid ((list_calls none D 0 N 0 c2 [] zs w3 rfl hN hz Sl.nil HO3.out.sl (by omega)).mono fun _ _ h => h.lit bs bs.length (by rw [List.nil_append, ← hN]; exact hd.symm) rfl)
    have hs3 := hs.below (b3.mono (Nat.le_refl _))
    clear hd hz r2 r3 HO3 HB
    rw [he]
    clear he
    go_wp2_with fail
    refine HL.out.mono ?_
    rintro e w4 ⟨D4, c4, rfl, s4, -, b4⟩
    have b5 := b3.trans (b4.mono b3.size)
    have hs4 := hs.below b5
    clear b4 hs3 HL
    go_wp2_with fail
    refine (sameB_self D4 A bs.length c4 c bs w4 rfl (by omega) s4 hs4).mono ?_
    rintro e w5 ⟨rfl, q5⟩
    have b6 := b5.trans (q5.below _)
    clear b5 s4 hs4 q5
    go_wp2_with fail
    refine (wireRuns_calls _).mono ?_
    rintro e w6 ⟨rfl, b7⟩
    go_wp2_with fail
    go_ret
    exact ⟨rfl, b6.trans (b7.mono b6.size)⟩
  · have hb : ((endE bs a2 e2 : Int) != 0) = true := bne_iff_ne.2 (by omega)
    generalize endE bs a2 e2 = ee at hb r3 he ⊢
    clear r2 r3 HO3 HB he
    go_wp2_with fail
    refine (wireRuns_calls _).mono ?_
    rintro e w6 ⟨rfl, b7⟩
    go_wp2_with fail
    go_ret
    exact ⟨rfl, b3.trans (b7.mono b3.size)⟩
end Go.Proofs.Ytjmiejcgahajfaa
