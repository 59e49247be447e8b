/-
  MailRuns, its walk.
-/
import Derived.Test.YtepmnhlfjidhjabMailFirst
import Derived.Test.YtepmnhlfjidhjabMailS2
namespace Go.Proofs.Ytepmnhlfjidhjab
open Go.RowKit Go.Mem Go.Conc

theorem stepB {a b c : World} (h : Below a.heap.size a b) (k : Below b.heap.size b c) : Below a.heap.size a c := h.trans (k.mono h.size)

set_option maxRecDepth 100000 in
set_option maxHeartbeats 3200000 in
theorem mailRuns_calls (w : World) :
    Calls Try.prog 20 #[] w fun e w' => e = .returned (.bool true) ∧ Below w.heap.size w w' := by
  have B := Below.refl w.heap.size w
  go_enter Try.func20, Try.ntmps20
  have HC := Lib.hid (newI_ok 2 (by decide) (by decide) w)
  unfold NewI at HC
  go_wp2_with fail
  refine HC.out.mono ?_
  rintro e w1 ⟨pa, ca, rfl, bx, lp, lc, bb⟩
  clear HC
  have qa : w.heap.size ≤ pa := Nat.le_trans B.size lp
  have ra : w.heap.size ≤ ca := Nat.le_trans B.size lc
  have na := bx.ne
  replace B := stepB B bb
  have Ha := Lib.hid bx
  clear bx bb lp lc
  have HC := Lib.hid (sendI_room pa ca 2 [] (.int .i64 1) w1 Ha.out (by simp))
  go_wp2_with fail
  refine HC.out.mono ?_
  rintro e w2 ⟨rfl, bx, fx⟩
  clear HC
  replace Ha := Lib.hid bx
  replace B := below_fr B fx B.size (by simp; omega)
  clear bx fx
  rw [List.nil_append] at Ha
  have HC := Lib.hid (sendI_room pa ca 2 [.int .i64 1] (.int .i64 2) w2 Ha.out (by simp))
  go_wp2_with fail
  refine HC.out.mono ?_
  rintro e w3 ⟨rfl, bx, fx⟩
  clear HC
  replace Ha := Lib.hid bx
  replace B := below_fr B fx B.size (by simp; omega)
  clear bx fx
  rw [List.cons_append, List.nil_append] at Ha
  have HC := Lib.hid (sendI_full pa ca 2 [.int .i64 1, .int .i64 2] (.int .i64 3) w3 Ha.out (by simp))
  go_wp2_with fail
  refine HC.out.mono ?_
  rintro e w4 ⟨rfl, hw⟩
  obtain rfl := hw.symm
  clear HC hw
  have HC := Lib.hid (recvI_some pa ca 2 [.int .i64 2] (.int .i64 1) false w3 Ha.out)
  go_wp2_with fail
  refine HC.out.mono ?_
  rintro e w5 ⟨rfl, bx, fx⟩
  clear HC
  replace Ha := Lib.hid bx
  replace B := below_fr B fx B.size (by simp; omega)
  clear bx fx
  have HC := Lib.hid (closeI_calls pa ca 2 [.int .i64 2] false w5 Ha.out)
  go_wp2_with fail
  refine HC.out.mono ?_
  rintro e w6 ⟨rfl, bx, fx⟩
  clear HC
  replace Ha := Lib.hid bx
  replace B := below_fr B fx B.size (by simp; omega)
  clear bx fx
  have HC := Lib.hid (sendI_shut pa ca 2 [.int .i64 2] (.int .i64 4) w6 Ha.out)
  go_wp2_with fail
  refine HC.out.mono ?_
  rintro e w7 ⟨rfl, hw⟩
  obtain rfl := hw.symm
  clear HC hw
  have HC := Lib.hid (closedI_calls pa ca 2 [.int .i64 2] true w6 Ha.out)
  go_wp2_with fail
  refine HC.out.mono ?_
  rintro e w8 ⟨rfl, hw⟩
  obtain rfl := hw.symm
  clear HC hw
  have HC := Lib.hid (recvI_some pa ca 2 [] (.int .i64 2) true w6 Ha.out)
  go_wp2_with fail
  refine HC.out.mono ?_
  rintro e w9 ⟨rfl, bx, fx⟩
  clear HC
  replace Ha := Lib.hid bx
  replace B := below_fr B fx B.size (by simp; omega)
  clear bx fx
  have HC := Lib.hid (recvI_none pa ca 2 true w9 Ha.out)
  go_wp2_with fail
  refine HC.out.mono ?_
  rintro e w10 ⟨rfl, hw⟩
  obtain rfl := hw.symm
  clear HC hw
  have HC := Lib.hid (newI_ok 2 (by decide) (by decide) w9)
  unfold NewI at HC
  go_wp2_with fail
  refine HC.out.mono ?_
  rintro e w11 ⟨pc, cc, rfl, bx, lp, lc, bb⟩
  clear HC
  have lac1 : pa < pc := Nat.lt_of_lt_of_le Ha.out.plt lp
  have lac2 : pa < cc := Nat.lt_of_lt_of_le Ha.out.plt lc
  have lac3 : ca < pc := Nat.lt_of_lt_of_le Ha.out.clt lp
  have lac4 : ca < cc := Nat.lt_of_lt_of_le Ha.out.clt lc
  replace Ha := Lib.hid (Ha.out.below bb)
  have qc : w.heap.size ≤ pc := Nat.le_trans B.size lp
  have rc : w.heap.size ≤ cc := Nat.le_trans B.size lc
  have nc := bx.ne
  replace B := stepB B bb
  have Hc := Lib.hid bx
  clear bx bb lp lc
  have HC := Lib.hid (newI_ok 2 (by decide) (by decide) w11)
  unfold NewI at HC
  go_wp2_with fail
  refine HC.out.mono ?_
  rintro e w12 ⟨pd, cd, rfl, bx, lp, lc, bb⟩
  clear HC
  have lad1 : pa < pd := Nat.lt_of_lt_of_le Ha.out.plt lp
  have lad2 : pa < cd := Nat.lt_of_lt_of_le Ha.out.plt lc
  have lad3 : ca < pd := Nat.lt_of_lt_of_le Ha.out.clt lp
  have lad4 : ca < cd := Nat.lt_of_lt_of_le Ha.out.clt lc
  replace Ha := Lib.hid (Ha.out.below bb)
  have lcd1 : pc < pd := Nat.lt_of_lt_of_le Hc.out.plt lp
  have lcd2 : pc < cd := Nat.lt_of_lt_of_le Hc.out.plt lc
  have lcd3 : cc < pd := Nat.lt_of_lt_of_le Hc.out.clt lp
  have lcd4 : cc < cd := Nat.lt_of_lt_of_le Hc.out.clt lc
  replace Hc := Lib.hid (Hc.out.below bb)
  have qd : w.heap.size ≤ pd := Nat.le_trans B.size lp
  have rd : w.heap.size ≤ cd := Nat.le_trans B.size lc
  have nd := bx.ne
  replace B := stepB B bb
  have Hd := Lib.hid bx
  clear bx bb lp lc
  have HC := Lib.hid (sendI_room pc cc 2 [] (.int .i64 7) w12 Hc.out (by simp))
  go_wp2_with fail
  refine HC.out.mono ?_
  rintro e w13 ⟨rfl, bx, fx⟩
  clear HC
  replace Ha := Lib.hid (Ha.out.fr fx (by simp; omega) (by simp; omega))
  replace Hd := Lib.hid (Hd.out.fr fx (by simp; omega) (by simp; omega))
  replace Hc := Lib.hid bx
  replace B := below_fr B fx B.size (by simp; omega)
  clear bx fx
  rw [List.nil_append] at Hc
  have HC := Lib.hid (sendI_room pc cc 2 [.int .i64 7] (.int .i64 8) w13 Hc.out (by simp))
  go_wp2_with fail
  refine HC.out.mono ?_
  rintro e w14 ⟨rfl, bx, fx⟩
  clear HC
  replace Ha := Lib.hid (Ha.out.fr fx (by simp; omega) (by simp; omega))
  replace Hd := Lib.hid (Hd.out.fr fx (by simp; omega) (by simp; omega))
  replace Hc := Lib.hid bx
  replace B := below_fr B fx B.size (by simp; omega)
  clear bx fx
  rw [List.cons_append, List.nil_append] at Hc
  have HC := Lib.hid (sendI_room pd cd 2 [] (.int .i64 9) w14 Hd.out (by simp))
  go_wp2_with fail
  refine HC.out.mono ?_
  rintro e w15 ⟨rfl, bx, fx⟩
  clear HC
  replace Ha := Lib.hid (Ha.out.fr fx (by simp; omega) (by simp; omega))
  replace Hc := Lib.hid (Hc.out.fr fx (by simp; omega) (by simp; omega))
  replace Hd := Lib.hid bx
  replace B := below_fr B fx B.size (by simp; omega)
  clear bx fx
  rw [List.nil_append] at Hd
  have ba := (Below.refl w15.heap.size w15).alloc (Nat.le_refl _) (.cells #[.pointer (some ⟨pa, 0, none⟩), .pointer none, .pointer (some ⟨pc, 0, none⟩), .pointer (some ⟨pd, 0, none⟩)] 24)
  have HC := Lib.hid (first_at (some ⟨w15.heap.size, 0, none⟩) 4 4 [some ⟨pa, ca, 2, [], true⟩, none, some ⟨pc, cc, 2, [.int .i64 7, .int .i64 8], false⟩, some ⟨pd, cd, 2, [.int .i64 9], false⟩] 2 ⟨pc, cc, 2, [.int .i64 7, .int .i64 8], false⟩ (.int .i64 7) [.int .i64 8] (w15.alloc (.cells #[.pointer (some ⟨pa, 0, none⟩), .pointer none, .pointer (some ⟨pc, 0, none⟩), .pointer (some ⟨pd, 0, none⟩)] 24)) rfl (by decide) (Sl.new rfl rfl) (by
    intro b' hm
    simp at hm
    rcases hm with rfl | rfl | rfl
    · exact Ha.out.below ba
    · exact Hc.out.below ba
    · exact Hd.out.below ba
    ) rfl rfl (by
    intro i b' hi hb
    match i, hi, hb with
    | 0, _, hb => simp at hb; subst hb; rfl
    | 1, _, hb => simp at hb
    ))
  unfold FirstEnds at HC
  go_wp2_with fail
  refine HC.out.mono ?_
  rintro e w16 ⟨rfl, bx, fx⟩
  clear HC
  replace Ha := Lib.hid ((Ha.out.below ba).fr fx (by simp; omega) (by simp; omega))
  replace Hd := Lib.hid ((Hd.out.below ba).fr fx (by simp; omega) (by simp; omega))
  replace Hc := Lib.hid bx
  replace B := below_fr (stepB B ba) fx (stepB B ba).size (by simp; omega)
  clear bx fx ba
  have ba := (Below.refl w16.heap.size w16).alloc (Nat.le_refl _) (.cells #[.pointer (some ⟨pa, 0, none⟩), .pointer none, .pointer (some ⟨pc, 0, none⟩), .pointer (some ⟨pd, 0, none⟩)] 24)
  have HC := Lib.hid (first_at (some ⟨w16.heap.size, 0, none⟩) 4 4 [some ⟨pa, ca, 2, [], true⟩, none, some ⟨pc, cc, 2, [.int .i64 8], false⟩, some ⟨pd, cd, 2, [.int .i64 9], false⟩] 2 ⟨pc, cc, 2, [.int .i64 8], false⟩ (.int .i64 8) [] (w16.alloc (.cells #[.pointer (some ⟨pa, 0, none⟩), .pointer none, .pointer (some ⟨pc, 0, none⟩), .pointer (some ⟨pd, 0, none⟩)] 24)) rfl (by decide) (Sl.new rfl rfl) (by
    intro b' hm
    simp at hm
    rcases hm with rfl | rfl | rfl
    · exact Ha.out.below ba
    · exact Hc.out.below ba
    · exact Hd.out.below ba
    ) rfl rfl (by
    intro i b' hi hb
    match i, hi, hb with
    | 0, _, hb => simp at hb; subst hb; rfl
    | 1, _, hb => simp at hb
    ))
  unfold FirstEnds at HC
  go_wp2_with fail
  refine HC.out.mono ?_
  rintro e w17 ⟨rfl, bx, fx⟩
  clear HC
  replace Ha := Lib.hid ((Ha.out.below ba).fr fx (by simp; omega) (by simp; omega))
  replace Hd := Lib.hid ((Hd.out.below ba).fr fx (by simp; omega) (by simp; omega))
  replace Hc := Lib.hid bx
  replace B := below_fr (stepB B ba) fx (stepB B ba).size (by simp; omega)
  clear bx fx ba
  have HC := Lib.hid (firstS_nil w17)
  go_wp2_with fail
  refine HC.out.mono ?_
  rintro e w18 ⟨rfl, hw⟩
  obtain rfl := hw.symm
  clear HC hw
  have HC := Lib.hid (newS_bad 0 (by decide) w17)
  go_wp2_with fail
  refine HC.out.mono ?_
  rintro e w19 ⟨rfl, hw⟩
  obtain rfl := hw.symm
  clear HC hw
  go_wp2_with fail
  go_ret
  exact ⟨rfl, B⟩
end Go.Proofs.Ytepmnhlfjidhjab
