/- Texts laid together: NetOn; NetSt4; DeltaStill. Their own heads stand before each. -/
import Derived.Test.YtgbbpliihglijaaGBB
import Derived.Test.YtgbbpliihglijaaGDA
import Derived.Test.YtgbbpliihglijaaNetSz
import Derived.Test.YtgbbpliihglijaaNetY
import Derived.ChangeMaps5
/- Lists of numbers as arguments. No conditions. -/
namespace Go.Proofs.Ytgbbpliihglijaa
open Go Go.RowKit Go.ChangeShapes
namespace NetOn
open Kit TermM TermI NetM NetN NetK NetO
set_option maxRecDepth 100000 in
theorem open_nums {H : Type} {enc : TypeId × Value → H} {W : World} {b0 : Nat} {base : Nat} {sp : Nat → Bool} {held : Bool} {v : Value} {d : DataW H} {p : List MemPlace}
    (hv : Value.okWide Try.prog W .any b0 25 v) (h : DataW.Trod enc Try.prog W base sp held 25 v d p) : ∃ (l : List Int) (u : Value), v = u ∧ RowE KN (· < W.heap.size) W l u := by
  obtain ⟨a0, m0, c0, rfl⟩ := Go.WideShapes.okWide_slice Try.underlying25 hv
  obtain ⟨fuel, hf⟩ := h
  obtain ⟨l, v, e, hin⟩ := nums_in hf
  simp [Value.cells] at e
  subst e
  exact ⟨l, _, rfl, hin⟩
end NetOn
end Go.Proofs.Ytgbbpliihglijaa
/- The walk of DeltaStill. No conditions. Made by gnSt.py. -/
namespace Go.Proofs.Ytgbbpliihglijaa
open Go Go.RowKit
namespace NetSt4
open Kit TermM TermI TermH NetM NetN NetK NetA NetC NetI NetMk NetNu NetOk NetEv NetBo NetMb NetVv NetS NetDn NetDp NetEm NetLt NetDx NetDw NetDs NetDt NetDe NetEg NetSb NetDz NetBp NetBt NetSl NetSz NetSa NetDa NetLx
theorem set_some {B ge gb gv : Nat} {st0 ip0 : List Int} {wk : Int} {w : World} (n : Nt) (h : Nh) (a b : Nat) (hck : chkN groundB n = 0) (hbm : n.bases.length ≤ 1000000) (him : n.inputs.length ≤ 1000000) (ha : a < 18446744073709551616 ∧ b < 18446744073709551616) (E : Eg n B ge gb gv st0 ip0 wk w) :
    Calls Try.prog 9 #[.pointer (some ⟨ge, 0, none⟩), .agg (netC n h), .agg #[.int .u64 (a : Int), .int .u64 (b : Int)]] w fun e w'' => ∃ (c : Nat) (wk' : Int), e = .returned (.tuple #[.int .i64 (c : Int), .int .i64 0]) ∧ Hid (Eg n B ge gb gv (bitsL a n.bases.length) (bitsL b n.inputs.length) wk' w'') ∧ Hid (Lt (ex3 ge gb gv) w w'') :=
  (set_law n h a b B ge gb gv st0 ip0 wk w hck hbm him ha.1 ha.2 E).mono fun _ _ h => ⟨_, _, h.1, Lib.hid h.2.1, Lib.hid h.2.2⟩
set_option maxRecDepth 100000 in
set_option maxHeartbeats 12800000 in
theorem law (n : Nt) (h : Nh) (a b : Nat) (bad : List Int) (w : World) (vb : Value) (k : NetIn (· < w.heap.size) w n h) (ha : a < 18446744073709551616) (hb : b < 18446744073709551616) (hbad : RowE KN (· < w.heap.size) w bad vb) :
    Calls Try.prog 3 #[.agg #[.slice h.gp n.gates.length h.gc, .slice h.rp n.roles.length h.rc, .slice h.bp n.bases.length h.bc, .slice h.ip n.inputs.length h.ic, .slice h.ap n.initial.length h.ac, .slice h.np n.next.length h.nc, .slice h.lp n.legal.length h.lc, .slice h.op n.goals.length h.oc, .slice h.sp n.sees.length h.sc, .int .i64 n.last, .bool n.hid], .agg #[.int .u64 (a : Int), .int .u64 (b : Int)], vb] w fun e w' => e = .returned (.bool true) ∧ Below w.heap.size w w' := by
  obtain ⟨W1, hW1⟩ : ∃ z, z = w.alloc (.cells #[.slice h.gp n.gates.length h.gc, .slice h.rp n.roles.length h.rc, .slice h.bp n.bases.length h.bc, .slice h.ip n.inputs.length h.ic, .slice h.ap n.initial.length h.ac, .slice h.np n.next.length h.nc, .slice h.lp n.legal.length h.lc, .slice h.op n.goals.length h.oc, .slice h.sp n.sees.length h.sc, .int .i64 n.last, .bool n.hid] 28) := ⟨_, rfl⟩
  obtain ⟨Wb, hWb⟩ : ∃ z, z = W1.alloc (.cells #[.int .u64 (a : Int), .int .u64 (b : Int)] 31) := ⟨_, rfl⟩
  have K1 : Hid (Below w.heap.size w W1) := Lib.hid (by rw [hW1]; exact below_alloc _ _)
  have K2 : Hid (Below W1.heap.size W1 Wb) := Lib.hid (by rw [hWb]; exact below_alloc _ _)
  have hz1 : W1.heap.size = w.heap.size + 1 := by rw [hW1]; simp
  have BB : Hid (Below w.heap.size w Wb) := Lib.hid (next0 K1.out K2.out)
  have H1 : Hid (Has Wb w.heap.size (netC n h)) := Lib.hid (by rw [hWb, hW1]; exact (Has.new _ _ _).alloc _)
  have H2 : Hid (Has Wb (w.heap.size + 1) #[.int .u64 (a : Int), .int .u64 (b : Int)]) := Lib.hid (by rw [hWb, ← hz1]; exact Has.new _ _ _)
  have hzB := BB.out.size
  have KW := Lib.hid (fun w' (q : Below Wb.heap.size Wb w') => show Below w.heap.size w w' from BB.out.trans (q.mono hzB))
  have NK := Lib.hid (fun w' (q : Below Wb.heap.size Wb w') => k.deep (KW.out w' q) (Nat.le_refl _))
  have HQ := Lib.hid (fun w' (q : Below Wb.heap.size Wb w') => hasN (H1.out.step0 q))
  have SM := Lib.hid (fun w' (q : Below Wb.heap.size Wb w') => NetSl.law_small n h w.heap.size w' (KW.out w' q).size (NK.out w' q))
  have CR := Lib.hid (fun (hz : SzN n) w' (q : Below Wb.heap.size Wb w') => NetY.rcheck_any n h w.heap.size w' (KW.out w' q).size (NK.out w' q) hz.next hz.legal hz.goals hz.seen)
  have NW := Lib.hid (fun w' (q : Below Wb.heap.size Wb w') => (NK.out w' q).wide fun b hb => Nat.lt_of_lt_of_le hb (KW.out w' q).size)
  have HC := Lib.hid (fun w' (q : Below Wb.heap.size Wb w') => show w'.cell? ⟨w.heap.size, 0, none⟩ = some (.slice h.gp n.gates.length h.gc) ∧ w'.cell? ⟨w.heap.size, 1, none⟩ = some (.slice h.rp n.roles.length h.rc) ∧ w'.cell? ⟨w.heap.size, 2, none⟩ = some (.slice h.bp n.bases.length h.bc) ∧ w'.cell? ⟨w.heap.size, 3, none⟩ = some (.slice h.ip n.inputs.length h.ic) ∧ w'.cell? ⟨w.heap.size, 4, none⟩ = some (.slice h.ap n.initial.length h.ac) ∧ w'.cell? ⟨w.heap.size, 5, none⟩ = some (.slice h.np n.next.length h.nc) ∧ w'.cell? ⟨w.heap.size, 6, none⟩ = some (.slice h.lp n.legal.length h.lc) ∧ w'.cell? ⟨w.heap.size, 7, none⟩ = some (.slice h.op n.goals.length h.oc) ∧ w'.cell? ⟨w.heap.size, 8, none⟩ = some (.slice h.sp n.sees.length h.sc) ∧ w'.cell? ⟨w.heap.size, 9, none⟩ = some (.int .i64 n.last) ∧ w'.cell? ⟨w.heap.size, 10, none⟩ = some (.bool n.hid) ∧ w'.cell? ⟨w.heap.size + 1, 0, none⟩ = some (.int .u64 (a : Int)) ∧ w'.cell? ⟨w.heap.size + 1, 1, none⟩ = some (.int .u64 (b : Int)) from ⟨(HQ.out w' q).1, (HQ.out w' q).2.1, (HQ.out w' q).2.2.1, (HQ.out w' q).2.2.2.1, (HQ.out w' q).2.2.2.2.1, (HQ.out w' q).2.2.2.2.2.1, (HQ.out w' q).2.2.2.2.2.2.1, (HQ.out w' q).2.2.2.2.2.2.2.1, (HQ.out w' q).2.2.2.2.2.2.2.2.1, (HQ.out w' q).2.2.2.2.2.2.2.2.2.1, (HQ.out w' q).2.2.2.2.2.2.2.2.2.2, (H2.out.step0 q).cell 0, (H2.out.step0 q).cell 1⟩)
  obtain ⟨pl, cl, rfl⟩ := hbad.form
  have hlm : bad.length ≤ maxLen := by obtain ⟨_, h1, h2⟩ := hbad.cap; exact Nat.le_trans h1 h2
  unfold maxLen at hlm
  have RBD := Lib.hid (fun w' (q : Below Wb.heap.size Wb w') => (hbad.keep (w' := w') fun b o (hb : b < w.heap.size) => (KW.out w' q).cell (p := ⟨b, o, none⟩) hb).wide (ok' := (· < w'.heap.size)) fun b hb => Nat.lt_of_lt_of_le hb (KW.out w' q).size)
  have AB := Lib.hid (And.intro ha hb)
  have D0 : Hid (Below Wb.heap.size Wb Wb) := Lib.hid (Below.refl _ _)
  clear k hbad NK ha hb K1 K2
  generalize hchk : chkN groundB n = ck at *
  have HCK := Lib.hid hchk
  clear hchk
  obtain ⟨LL, hLL⟩ : ∃ z, z = bad.length := ⟨_, rfl⟩
  rw [← hLL] at hlm RBD ⊢
  clear hLL
  have HZ1 := Lib.hid hz1
  clear hz1
  go_enter Try.func3, Try.ntmps3
  go_upto_region 1 with fail
  have e1 := HZ1.out
  rw [← hW1, ← hWb]
  clear hWb hW1 e1
  have C1 := Lib.hid (SM.out Wb D0.out)
  obtain ⟨q1, q2, q3, q4, q5, q6, q7, q8, q9, q10, q11⟩ := HQ.out Wb D0.out
  go_wp2_with fail
  refine C1.out.mono ?_
  rintro e w1 ⟨b1, rfl, s1, g1⟩
  have J1 : Hid (Below Wb.heap.size Wb w1) := Lib.hid g1
  have D1 : Hid (Below Wb.heap.size Wb w1) := Lib.hid (next0 D0.out g1)
  have S1 := Lib.hid s1
  clear s1
  clear g1 C1 q1 q2 q3 q4 q5 q6 q7 q8 q9 q10 q11
  cases b1
  · have C2 := Lib.hid (alive_any w1)
    go_wp2_with fail
    refine C2.out.mono ?_
    rintro e w2 ⟨rfl, g2⟩
    have J2 : Hid (Below w1.heap.size w1 w2) := Lib.hid g2
    have D2 : Hid (Below Wb.heap.size Wb w2) := Lib.hid (next0 D1.out g2)
    clear g2 C2
    have DF := Lib.hid (KW.out _ D2.out)
    go_wp2_with fail
    go_ret
    exact ⟨rfl, DF.out⟩
  have ZN := Lib.hid (sz_of (S1.out rfl))
  clear S1
  have C2 := Lib.hid (CR.out ZN.out w1 D1.out)
  obtain ⟨q1, q2, q3, q4, q5, q6, q7, q8, q9, q10, q11⟩ := HQ.out w1 D1.out
  go_wp2_with fail
  refine C2.out.mono ?_
  rintro e w2 ⟨rfl, g2⟩
  have J2 : Hid (Below w1.heap.size w1 w2) := Lib.hid g2
  have D2 : Hid (Below Wb.heap.size Wb w2) := Lib.hid (next0 D1.out g2)
  clear g2 C2 q1 q2 q3 q4 q5 q6 q7 q8 q9 q10 q11
  by_cases hc : ck = 0
  rotate_left
  · have i1 : (ck != 0) = true := by simp [hc]
    clear hc
    have C3 := Lib.hid (alive_any w2)
    go_wp2_with fail
    refine C3.out.mono ?_
    rintro e w3 ⟨rfl, g3⟩
    have J3 : Hid (Below w2.heap.size w2 w3) := Lib.hid g3
    have D3 : Hid (Below Wb.heap.size Wb w3) := Lib.hid (next0 D2.out g3)
    clear g3 C3
    have DF := Lib.hid (KW.out _ D3.out)
    go_wp2_with fail
    go_ret
    exact ⟨rfl, DF.out⟩
  have i1 : (ck != 0) = false := by simp [hc]
  have CKN : Hid (chkN groundB n = 0) := Lib.hid (HCK.out.trans hc)
  clear hc HCK CR SM
  by_cases h8 : 40 < LL
  · have C3 := Lib.hid (alive_any w2)
    go_wp2_with fail
    refine C3.out.mono ?_
    rintro e w3 ⟨rfl, g3⟩
    have J3 : Hid (Below w2.heap.size w2 w3) := Lib.hid g3
    have D3 : Hid (Below Wb.heap.size Wb w3) := Lib.hid (next0 D2.out g3)
    clear g3 C3
    have DF := Lib.hid (KW.out _ D3.out)
    go_wp2_with fail
    go_ret
    exact ⟨rfl, DF.out⟩
  have OK := Lib.hid (nok CKN.out)
  have hnb : Hid (n.bases.length ≤ 1000000) := Lib.hid (by have := OK.out.next; have := ZN.out.next; omega)
  have hni : Hid (n.inputs.length ≤ 1000000) := Lib.hid (by have := OK.out.legal; have := ZN.out.legal; omega)
  have hng : Hid (n.gates.length ≤ 1000000) := Lib.hid (by have := OK.out.few; omega)
  have NE := Lib.hid (fun w' (q : Below Wb.heap.size Wb w') => new_eg h (NW.out w' q) ZN.out CKN.out)
  have C3 := Lib.hid (NE.out w2 D2.out)
  obtain ⟨q1, q2, q3, q4, q5, q6, q7, q8, q9, q10, q11⟩ := HQ.out w2 D2.out
  go_wp2_with fail
  refine C3.out.mono ?_
  rintro e w3 ⟨ge, gb, gv, rfl, hE, g3⟩
  have E3 := Lib.hid hE
  have D3 : Hid (Below Wb.heap.size Wb w3) := Lib.hid (next0 D2.out g3)
  have J3 : Hid (Below w2.heap.size w2 w3) := Lib.hid g3
  have GL := Lib.hid (Eg.lts hE)
  clear hE g3 C3 NE i1 q1 q2 q3 q4 q5 q6 q7 q8 q9 q10 q11
  have WB2 : Hid (Wb.heap.size ≤ w2.heap.size) := Lib.hid D2.out.size
  have W23 : Hid (w2.heap.size ≤ w3.heap.size) := Lib.hid J3.out.size
  have LD := Lib.hid (fun (x y : World) (st0 ip0 : List Int) (k0 : Int) (e : Eg n w2.heap.size ge gb gv st0 ip0 k0 x) (hx : w2.heap.size ≤ x.heap.size) (l : Lt (ex3 ge gb gv) x y) (d : Below Wb.heap.size Wb x) => show Below Wb.heap.size Wb y from d.trans ((e.lt hx l).mono WB2.out))
  have SZ3 : Hid (w2.heap.size ≤ w3.heap.size) := W23
  have C5 := Lib.hid (set_some (w := w3) n h a b CKN.out hnb.out hni.out AB.out E3.out)
  obtain ⟨x1, x2, x3, x4, x5, x6, x7, x8, x9, x10, x11, x12, x13⟩ := HC.out w3 D3.out
  go_wp2_with fail
  refine C5.out.mono ?_
  rintro e w5 ⟨c5, k5, rfl, E5, T5⟩
  have D5 : Hid (Below Wb.heap.size Wb w5) := Lib.hid (LD.out _ _ _ _ _ E3.out SZ3.out T5.out D3.out)
  have SZ5 : Hid (w2.heap.size ≤ w5.heap.size) := Lib.hid (Nat.le_trans SZ3.out T5.out.size)
  clear C5 x1 x2 x3 x4 x5 x6 x7 x8 x9 x10 x11 x12 x13
  have GL5 := Lib.hid (lts_le GL.out T5.out.size)
  have VX := Lib.hid (values_eg hng.out E5.out)
  clear E3 T5
  go_wp2_with fail
  refine VX.out.mono ?_
  rintro e w6 ⟨v6, rfl, r6, g6⟩
  have RV := Lib.hid (LtB.of GL5.out r6)
  have E6 := Lib.hid (E5.out.below g6)
  have D6 := Lib.hid (next0 D5.out g6)
  have SZ6 : Hid (w2.heap.size ≤ w6.heap.size) := Lib.hid (Nat.le_trans SZ5.out g6.size)
  have GL6 := Lib.hid (lts_le GL5.out g6.size)
  obtain ⟨p6, c6, rfl⟩ := r6.form
  clear r6 g6 VX E5 D5 SZ5 GL5
  have WX := Lib.hid (work_eg E6.out)
  go_wp2_with fail
  refine WX.out.mono ?_
  rintro e w7 ⟨rfl, rfl⟩
  clear WX
  have SX := Lib.hid (state_low_eg hnb.out hni.out ⟨bits_ok a n.bases.length, bits_ok b n.inputs.length⟩ E6.out)
  go_wp2_with fail
  refine SX.out.mono ?_
  rintro e w7 ⟨u7, v7, rfl, ru, rv, g7⟩
  have RS := Lib.hid (LtN.of GL6.out ru)
  have RM := Lib.hid (LtN.of GL6.out rv)
  have RV7 := Lib.hid (RV.out.step (Lt.of g7))
  have E7 := Lib.hid (E6.out.below g7)
  have D7 := Lib.hid (next0 D6.out g7)
  have SZ7 : Hid (w2.heap.size ≤ w7.heap.size) := Lib.hid (Nat.le_trans SZ6.out g7.size)
  have GL7 := Lib.hid (lts_le GL6.out g7.size)
  obtain ⟨pu, cu, rfl⟩ := ru.form
  obtain ⟨pv, cv, rfl⟩ := rv.form
  clear ru rv g7 SX E6 D6 SZ6 GL6 RV
  have TX := Lib.hid (set_try CKN.out hnb.out hni.out (bits_ok b n.inputs.length) E7.out (RBD.out w7 D7.out) RM.out.row)
  go_wp2_with fail
  refine TX.out.mono ?_
  rintro e w8 ⟨c8, er, st1, ip1, k1, rfl, hE8, l8, hsame⟩
  have E8 := Lib.hid hE8
  have L8 := Lib.hid l8
  have SAME := Lib.hid hsame
  have D8 := Lib.hid (LD.out _ _ _ _ _ E7.out SZ7.out l8 D7.out)
  have SZ8 : Hid (w2.heap.size ≤ w8.heap.size) := Lib.hid (Nat.le_trans SZ7.out l8.size)
  have GL8 := Lib.hid (lts_le GL7.out l8.size)
  clear hE8 l8 hsame TX E7 D7 SZ7 GL7
  go_upto_if 64 with fail
  go_cut [92] (fun _ wx => ∃ (st1 ip1 : List Int) (k1 : Int), Hid (Eg n w2.heap.size ge gb gv st1 ip1 k1 wx) ∧ Hid (Lt (ex3 ge gb gv) w7 wx) ∧ Hid (Below Wb.heap.size Wb wx) ∧ Hid (w2.heap.size ≤ wx.heap.size))
  case first =>
    by_cases her : er = 0
    · have i2 : (er != 0) = false := by simp [her]
      clear her
      go_wp2_with fail
      go_meet
      exact ⟨_, _, _, E8, L8, D8, SZ8⟩
    · have i2 : (er != 0) = true := by simp [her]
      obtain ⟨rfl, rfl, rfl⟩ := SAME.out her
      have R8 := Lib.hid (RV7.out.step L8.out)
      have S8 := Lib.hid (RS.out.step L8.out)
      have M8 := Lib.hid (RM.out.step L8.out)
      have SX := Lib.hid (state_low_eg hnb.out hni.out ⟨bits_ok a n.bases.length, bits_ok b n.inputs.length⟩ E8.out)
      clear her
      go_wp2_with fail
      refine SX.out.mono ?_
      rintro e w9 ⟨u9, v9, rfl, ru, rv, g9⟩
      have U9 := Lib.hid (LtN.of GL8.out ru)
      have V9 := Lib.hid (LtN.of GL8.out rv)
      obtain ⟨pu9, cu9, rfl⟩ := ru.form
      obtain ⟨pv9, cv9, rfl⟩ := rv.form
      have E9 := Lib.hid (E8.out.below g9)
      have D9 := Lib.hid (next0 D8.out g9)
      have L9 : Hid (Lt (ex3 ge gb gv) w8 w9) := Lib.hid (Lt.of g9)
      have SZ9 : Hid (w2.heap.size ≤ w9.heap.size) := Lib.hid (Nat.le_trans SZ8.out g9.size)
      have GL9 := Lib.hid (lts_le GL8.out g9.size)
      clear ru rv g9 SX
      have VX := Lib.hid (values_eg hng.out E9.out)
      go_wp2_with fail
      refine VX.out.mono ?_
      rintro e w10 ⟨v10, rfl, r10, g10⟩
      have RA := Lib.hid (LtB.of GL9.out r10)
      obtain ⟨p10, c10, rfl⟩ := r10.form
      have E10 := Lib.hid (E9.out.below g10)
      have D10 := Lib.hid (next0 D9.out g10)
      have L10 : Hid (Lt (ex3 ge gb gv) w8 w10) := Lib.hid (L9.out.below g10)
      have U10 := Lib.hid (U9.out.step (Lt.of g10))
      have V10 := Lib.hid (V9.out.step (Lt.of g10))
      have SZ10 : Hid (w2.heap.size ≤ w10.heap.size) := Lib.hid (Nat.le_trans SZ9.out g10.size)
      clear r10 g10 VX E9 D9 L9 U9 V9 SZ9 GL9
      have BX := Lib.hid (bools_eq _ w10 _ _ (R8.out.step L10.out).row RA.out.row)
      go_wp2_with fail
      refine BX.out.mono ?_
      rintro e w11 ⟨rfl, g11⟩
      have E11 := Lib.hid (E10.out.below g11)
      have D11 := Lib.hid (next0 D10.out g11)
      have L11 : Hid (Lt (ex3 ge gb gv) w8 w11) := Lib.hid (L10.out.below g11)
      have U11 := Lib.hid (U10.out.step (Lt.of g11))
      have V11 := Lib.hid (V10.out.step (Lt.of g11))
      have SZ11 : Hid (w2.heap.size ≤ w11.heap.size) := Lib.hid (Nat.le_trans SZ10.out g11.size)
      clear g11 BX E10 D10 L10 U10 V10 SZ10
      have WX := Lib.hid (work_eg E11.out)
      go_wp2_with fail
      refine WX.out.mono ?_
      rintro e w12 ⟨rfl, rfl⟩
      clear WX
      have IX := Lib.hid (ints_eq _ w11 _ _ (S8.out.step L11.out).row U11.out.row)
      go_wp2_with fail
      refine IX.out.mono ?_
      rintro e w12 ⟨rfl, g12⟩
      have E12 := Lib.hid (E11.out.below g12)
      have D12 := Lib.hid (next0 D11.out g12)
      have L12 : Hid (Lt (ex3 ge gb gv) w8 w12) := Lib.hid (L11.out.below g12)
      have V12 := Lib.hid (V11.out.step (Lt.of g12))
      have SZ12 : Hid (w2.heap.size ≤ w12.heap.size) := Lib.hid (Nat.le_trans SZ11.out g12.size)
      clear g12 IX E11 D11 L11 U11 V11 SZ11
      have IX := Lib.hid (ints_eq _ w12 _ _ (M8.out.step L12.out).row V12.out.row)
      go_wp2_with fail
      refine IX.out.mono ?_
      rintro e w13 ⟨rfl, g13⟩
      have E13 := Lib.hid (E12.out.below g13)
      have D13 := Lib.hid (next0 D12.out g13)
      have L13 : Hid (Lt (ex3 ge gb gv) w7 w13) := Lib.hid (L8.out.trans (L12.out.below g13))
      have SZ13 : Hid (w2.heap.size ≤ w13.heap.size) := Lib.hid (Nat.le_trans SZ12.out g13.size)
      clear g13 IX E12 D12 L12 V12 SZ12
      go_wp2_with fail
      go_meet
      exact ⟨_, _, _, E13, L13, D13, SZ13⟩
  case rest =>
  generalize hww : wc = wx at *
  clear hww SAME E8 L8 D8 SZ8 GL8
  obtain ⟨st2, ip2, k2, EA, LA, DA, SA⟩ := hcut
  have GB := Lib.hid (Eg.lts EA.out)
  have C9 := Lib.hid (set_st CKN.out hnb.out hni.out ⟨bits_ok a n.bases.length, bits_ok b n.inputs.length⟩ EA.out (RS.out.step LA.out).row (RM.out.step LA.out).row)
  go_wp2_with fail
  refine C9.out.mono ?_
  rintro e wy ⟨c9, k9, rfl, hEB, l9⟩
  have EB := Lib.hid hEB
  have LB : Hid (Lt (ex3 ge gb gv) w7 wy) := Lib.hid (LA.out.trans l9)
  have DB := Lib.hid (LD.out _ _ _ _ _ EA.out SA.out l9 DA.out)
  have SB : Hid (w2.heap.size ≤ wy.heap.size) := Lib.hid (Nat.le_trans SA.out l9.size)
  clear hEB l9 C9 EA LA DA SA
  have C9 := Lib.hid (set_again CKN.out hnb.out hni.out ⟨bits_ok a n.bases.length, bits_ok b n.inputs.length⟩ EB.out (RS.out.step LB.out).row (RM.out.step LB.out).row)
  go_wp2_with fail
  refine C9.out.mono ?_
  rintro e wz ⟨rfl, hEC, l9⟩
  have EC := Lib.hid hEC
  have LC : Hid (Lt (ex3 ge gb gv) w7 wz) := Lib.hid (LB.out.trans l9)
  have DC := Lib.hid (LD.out _ _ _ _ _ EB.out SB.out l9 DB.out)
  have GC := Lib.hid (Eg.lts hEC)
  clear hEC l9 C9 EB LB DB SB
  have CA := Lib.hid (alive_any wz)
  go_wp2_with fail
  refine CA.out.mono ?_
  rintro e w14 ⟨rfl, g14⟩
  have E14 := Lib.hid (EC.out.below g14)
  have D14 := Lib.hid (next0 DC.out g14)
  have L14 : Hid (Lt (ex3 ge gb gv) w7 w14) := Lib.hid (LC.out.below g14)
  have G14 := Lib.hid (lts_le GC.out g14.size)
  clear g14 CA EC LC DC GC
  have WX := Lib.hid (work_eg E14.out)
  go_wp2_with fail
  refine WX.out.mono ?_
  rintro e w15 ⟨rfl, rfl⟩
  clear WX
  have VX := Lib.hid (values_eg hng.out E14.out)
  go_wp2_with fail
  refine VX.out.mono ?_
  rintro e w15 ⟨v15, rfl, r15, g15⟩
  have RA := Lib.hid (LtB.of G14.out r15)
  obtain ⟨p15, c15, rfl⟩ := r15.form
  have D15 := Lib.hid (next0 D14.out g15)
  have L15 : Hid (Lt (ex3 ge gb gv) w7 w15) := Lib.hid (L14.out.below g15)
  clear r15 g15 VX
  have BX := Lib.hid (bools_eq _ w15 _ _ (RV7.out.step L15.out).row RA.out.row)
  go_wp2_with fail
  refine BX.out.mono ?_
  rintro e w16 ⟨rfl, g16⟩
  have DF := Lib.hid (KW.out _ (next0 D15.out g16))
  clear g16 BX
  go_wp2_with fail
  go_ret
  exact ⟨rfl, DF.out⟩
end NetSt4
end Go.Proofs.Ytgbbpliihglijaa
/- DeltaStill: for all networks, points and numbers the law that setting an engine to what it has changes nothing returns true. No conditions. -/
namespace Go.Proofs.Ytgbbpliihglijaa.deltaStill
open Go Go.ChangeShapes Go.WideShapes Go.ChangeAt Go.RowKit
open Go.Proofs.Ytgbbpliihglijaa Go.Proofs.Ytgbbpliihglijaa.Kit

theorem own : ownKnob Try.prog.godebug = none := by kernel_rfl
theorem laidOut : laidOutB Try.prog = true := by kernel_rfl
theorem hpar : ∀ t ∈ Try.f3.params.toList, Try.prog.readableRec t = true ∧ t < Try.prog.types.size := by
  have hq : ∀ t ∈ [28, 31, 25], Try.prog.readableRec t = true ∧ t < Try.prog.types.size := by
    intro t ht
    simp at ht
    rcases ht with rfl | rfl | rfl
    all_goals exact ⟨by kernel_rfl, of_decide_eq_true (by kernel_rfl)⟩
  rw [Try.params3]
  exact hq
theorem hrt : Try.f3.resultTypes = #[4] := by kernel_rfl
set_option maxRecDepth 100000 in
theorem lifted (os : Os) (started : os.Started) (H : Type) (enc : TypeId × Value → H) :
    ReturnsInHanded {} Try.checked os 3 .any (Rows.deltaStillSpec.pre6 enc Try.prog Try.f3 Rows.deltaStillRow.domain false) (Rows.deltaStillSpec.post enc Try.prog Try.f3 false true false false) := by
  refine returnsInHanded_of_change (C := Try.checked) own started (by kernel_rfl) Try.func3
    (ChangeSpec.witness6 (enc := enc) (C := Try.checked) false ⟨#[], #[.agg #[.slice none 0 0, .slice none 0 0, .slice none 0 0, .slice none 0 0, .slice none 0 0, .slice none 0 0, .slice none 0 0, .slice none 0 0, .slice none 0 0, .int .i64 0, .bool false], .agg #[.int .u64 0, .int .u64 0], .slice none 0 0], []⟩ 8 (by kernel_rfl) (by kernel_rfl) (by kernel_rfl) (by kernel_rfl)) ?_
  intro W base args ds gs before hval0 hW hcnd _
  have hval : ∀ (j : Nat) t v, Try.f3.params[j]? = some t → args[j]? = some v → Value.okWide Try.prog W .any base t v := hval0
  have hW' := hW
  obtain ⟨p, q, hA0, hV, rfl, hfz, hnd⟩ := hW
  have hA : DataW.TrodAll enc Try.prog W 0 (fun _ => true) true Try.f3.params.toList args.toList ds p := hA0
  rw [Try.params3] at hA hval
  obtain ⟨v0, vs0, d0, ds0, p0, q0, hargs, rfl, rfl, h0, r0⟩ := trodAll_cons hA
  obtain ⟨v1, vs1, d1, ds1, p1, q1, rfl, rfl, rfl, h1, r1⟩ := trodAll_cons r0
  obtain ⟨v2, vs2, d2, ds2, p2, q2, rfl, rfl, rfl, h2, r2⟩ := trodAll_cons r1
  obtain ⟨rfl, rfl, rfl⟩ := trodAll_nil r2
  obtain rfl : args = #[v0, v1, v2] := Array.ext' hargs
  obtain ⟨rfl, rfl⟩ := trodVars_none hV
  obtain ⟨n, h, rfl, k⟩ := NetO.open_net (hval 0 28 v0 rfl rfl) h0
  obtain ⟨a, b, rfl, hp0, hp1⟩ := NetPs.open_spoint (hval 1 31 v1 rfl rfl) h1
  obtain ⟨l, ul, rfl, hl⟩ := NetOn.open_nums (hval 2 25 v2 rfl rfl) h2
  have walk := NetSt4.law n h a b l W _ k hp0 hp1 hl
  refine walk.mono fun e W' ⟨he, bel⟩ => ?_
  subst he
  exact ⟨_, rfl, law_post 4 laidOut hpar hrt Try.underlying4 hW' rfl ⟨rfl, rfl, rfl⟩ bel⟩
theorem over : Rows.deltaStillRow.holds Try.pinned (OpenSpec.ofChange Rows.deltaStillSpec) :=
  OpenClaim.holds_of_wide 3 Try.f3 rfl rfl rfl rfl rfl rfl rfl ⟨rfl, rfl, rfl, rfl, rfl⟩ rfl rfl rfl rfl rfl (by kernel_rfl) Try.func3 (by kernel_rfl)
    (of_decide_eq_true (by kernel_rfl)) (by unfold Func.isWrapper; first | (rw [if_pos (by decide +kernel)]; kernel_rfl) | (rw [if_neg (by decide +kernel)]; exact ⟨rfl, rfl⟩))
    (fun os started H enc _ => lifted os started H enc)
/-- ████ THE STATEMENT ████ -/
theorem proved : Rows.DeltaStillSaid := over
#print axioms proved
end Go.Proofs.Ytgbbpliihglijaa.deltaStill
