/- The walk of EvaluateMore. No conditions. Made by gnE2b.py. -/
import Derived.Test.YtkfeliogglnngaaNetPs
import Derived.Test.YtkfeliogglnngaaNetA3
import Derived.Test.YtkfeliogglnngaaNetBt
import Derived.Test.YtkfeliogglnngaaNetMo
import Derived.Test.YtkfeliogglnngaaNetY
import Derived.Test.YtkfeliogglnngaaNetSz
import Derived.Laws.Bits64b
namespace Go.Proofs.Ytkfeliogglnngaa
open Go Go.RowKit
namespace NetSt
open Kit LexM TermM TermI NetM NetN NetK NetA NetC NetI NetMk NetNu NetA3
/-- Rows that lie still in every later world. -/
def StN (L : List Int) (w : World) (v : Value) : Prop := ∀ z, Below w.heap.size w z → RowE KN (· < z.heap.size) z L v
theorem StN.of {B : Nat} {L : List Int} {w : World} {v : Value} (h : RowE KN (fun b => B ≤ b ∧ b < w.heap.size) w L v) : StN L w v := fun _ q => row_on h q
def StB (L : List Bool) (w : World) (v : Value) : Prop := ∀ z, Below w.heap.size w z → RowE KB (· < z.heap.size) z L v
theorem StB.of {B : Nat} {L : List Bool} {w : World} {v : Value} (h : RowE KB (fun b => B ≤ b ∧ b < w.heap.size) w L v) : StB L w v := fun _ q => row_on h q
theorem StB.step {L : List Bool} {w w' : World} {v : Value} (h : StB L w v) (q : Below w.heap.size w w') : StB L w' v := fun z k => h z (q.trans (k.mono q.size))
end NetSt
namespace NetE2
open Kit LexM TermM TermI TermH NetM NetN NetK NetA NetC NetI NetMk NetNu NetOk NetEv NetBo NetMb NetS NetVa NetVv NetTr NetSa NetA3 NetSl NetSz NetBp NetBt NetMo NetSt
set_option maxRecDepth 100000 in
set_option maxHeartbeats 6400000 in
theorem law (n : Nt) (h : Nh) (a b c d : Nat) (w : World) (ha : a < 18446744073709551616) (hb : b < 18446744073709551616) (hc : c < 18446744073709551616) (hd : d < 18446744073709551616) (k : NetIn (· < w.heap.size) w n h) :
    Calls Try.prog 4 #[.agg #[.slice h.gp n.gates.length h.gc, .slice h.rp n.roles.length h.rc, .slice h.bp n.bases.length h.bc, .slice h.ip n.inputs.length h.ic, .slice h.ap n.initial.length h.ac, .slice h.np n.next.length h.nc, .slice h.lp n.legal.length h.lc, .slice h.op n.goals.length h.oc, .slice h.sp n.sees.length h.sc, .int .i64 n.last, .bool n.hid], .agg #[.int .u64 (a : Int), .int .u64 (b : Int)], .agg #[.int .u64 (c : Int), .int .u64 (d : Int)]] w fun e w' => e = .returned (.bool true) ∧ Below w.heap.size w w' := by
  obtain ⟨W1, hW1⟩ : ∃ z, z = w.alloc (.cells #[.slice h.gp n.gates.length h.gc, .slice h.rp n.roles.length h.rc, .slice h.bp n.bases.length h.bc, .slice h.ip n.inputs.length h.ic, .slice h.ap n.initial.length h.ac, .slice h.np n.next.length h.nc, .slice h.lp n.legal.length h.lc, .slice h.op n.goals.length h.oc, .slice h.sp n.sees.length h.sc, .int .i64 n.last, .bool n.hid] 28) := ⟨_, rfl⟩
  obtain ⟨W2, hW2⟩ : ∃ z, z = W1.alloc (.cells #[.int .u64 (a : Int), .int .u64 (b : Int)] 45) := ⟨_, rfl⟩
  obtain ⟨Wb, hWb⟩ : ∃ z, z = W2.alloc (.cells #[.int .u64 (c : Int), .int .u64 (d : Int)] 45) := ⟨_, rfl⟩
  have K1 : Hid (Below w.heap.size w W1) := Lib.hid (by rw [hW1]; exact below_alloc _ _)
  have K2 : Hid (Below W1.heap.size W1 W2) := Lib.hid (by rw [hW2]; exact below_alloc _ _)
  have K3 : Hid (Below W2.heap.size W2 Wb) := Lib.hid (by rw [hWb]; exact below_alloc _ _)
  have hz1 : W1.heap.size = w.heap.size + 1 := by rw [hW1]; simp
  have hz2 : W2.heap.size = w.heap.size + 2 := by rw [hW2]; simp [hz1]
  have BB : Hid (Below w.heap.size w Wb) := Lib.hid (next0 (next0 K1.out K2.out) K3.out)
  have H1 : Hid (Has Wb w.heap.size (netC n h)) := Lib.hid (by rw [hWb, hW2, hW1]; exact ((Has.new _ _ _).alloc _).alloc _)
  have H2 : Hid (Has Wb (w.heap.size + 1) #[.int .u64 (a : Int), .int .u64 (b : Int)]) := Lib.hid (by rw [hWb, hW2, ← hz1]; exact (Has.new _ _ _).alloc _)
  have H3 : Hid (Has Wb (w.heap.size + 1 + 1) #[.int .u64 (c : Int), .int .u64 (d : Int)]) := Lib.hid (by rw [hWb, show w.heap.size + 1 + 1 = W2.heap.size by omega]; exact Has.new _ _ _)
  have hzB := BB.out.size
  have hlen : n.gates.length ≤ maxLen := by obtain ⟨_, h1, h2⟩ := k.gates.cap; omega
  unfold maxLen at hlen
  have KW := Lib.hid (fun w' (q : Below Wb.heap.size Wb w') => show Below w.heap.size w w' from BB.out.trans (q.mono hzB))
  have NK := Lib.hid (fun w' (q : Below Wb.heap.size Wb w') => k.deep (KW.out w' q) (Nat.le_refl _))
  have HQ := Lib.hid (fun w' (q : Below Wb.heap.size Wb w') => hasN (H1.out.step0 q))
  have CL : Hid (∀ w', Below Wb.heap.size Wb w' → w'.cell? ⟨w.heap.size, 0, none⟩ = some (.slice h.gp n.gates.length h.gc) ∧ w'.cell? ⟨w.heap.size, 1, none⟩ = some (.slice h.rp n.roles.length h.rc) ∧ w'.cell? ⟨w.heap.size, 2, none⟩ = some (.slice h.bp n.bases.length h.bc) ∧ w'.cell? ⟨w.heap.size, 3, none⟩ = some (.slice h.ip n.inputs.length h.ic) ∧ w'.cell? ⟨w.heap.size, 4, none⟩ = some (.slice h.ap n.initial.length h.ac) ∧ w'.cell? ⟨w.heap.size, 5, none⟩ = some (.slice h.np n.next.length h.nc) ∧ w'.cell? ⟨w.heap.size, 6, none⟩ = some (.slice h.lp n.legal.length h.lc) ∧ w'.cell? ⟨w.heap.size, 7, none⟩ = some (.slice h.op n.goals.length h.oc) ∧ w'.cell? ⟨w.heap.size, 8, none⟩ = some (.slice h.sp n.sees.length h.sc) ∧ w'.cell? ⟨w.heap.size, 9, none⟩ = some (.int .i64 n.last) ∧ w'.cell? ⟨w.heap.size, 10, none⟩ = some (.bool n.hid) ∧ w'.cell? ⟨w.heap.size + 1, 0, none⟩ = some (.int .u64 (a : Int)) ∧ w'.cell? ⟨w.heap.size + 1, 1, none⟩ = some (.int .u64 (b : Int))) := Lib.hid (fun w' q => by
    obtain ⟨q1, q2, q3, q4, q5, q6, q7, q8, q9, q10, q11⟩ := hasN (H1.out.step0 q)
    exact ⟨q1, q2, q3, q4, q5, q6, q7, q8, q9, q10, q11, (H2.out.step0 q).cell 0, (H2.out.step0 q).cell 1⟩)
  have CL3 : Hid (∀ w', Below Wb.heap.size Wb w' → w'.cell? ⟨w.heap.size + 1 + 1, 0, none⟩ = some (.int .u64 (c : Int)) ∧ w'.cell? ⟨w.heap.size + 1 + 1, 1, none⟩ = some (.int .u64 (d : Int))) := Lib.hid (fun w' q => ⟨(H3.out.step0 q).cell 0, (H3.out.step0 q).cell 1⟩)
  have SM := Lib.hid (fun w' (q : Below Wb.heap.size Wb w') => NetSl.law_small n h w.heap.size w' (KW.out w' q).size (NK.out w' q))
  have CR := Lib.hid (fun (hz : SzN n) w' (q : Below Wb.heap.size Wb w') => NetY.rcheck_any n h w.heap.size w' (KW.out w' q).size (NK.out w' q) hz.next hz.legal hz.goals hz.seen)
  have CV0 := Lib.hid (fun (hz : SzN n) w' (q : Below Wb.heap.size Wb w') st ip vs vi hs hi => values_any n h st ip w'.heap.size w' vs vi (Nat.le_refl _) ((NK.out w' q).wide fun b hb => Nat.lt_of_lt_of_le hb (KW.out w' q).size) hz hs hi)
  have GTS := Lib.hid (fun k g (hg : n.gates[k]? = some g) w' (q : Below Wb.heap.size Wb w') => show ∃ b o, h.gp = some ⟨b, o, none⟩ ∧ w'.cell? ⟨b, o + k * 3, none⟩ = some (.int .i64 g.1) from by
    obtain ⟨v, b, o, e1, _, e3, e4⟩ := (NK.out w' q).gates.at hg
    exact ⟨b, o, e1, by have := e4 0 _ rfl; simpa [KG] using this⟩)
  have D0 : Hid (Below Wb.heap.size Wb Wb) := Lib.hid (Below.refl _ _)
  obtain ⟨ac, hac⟩ : ∃ ac, ac = a ||| c := ⟨_, rfl⟩
  obtain ⟨bd, hbd⟩ : ∃ bd, bd = b ||| d := ⟨_, rfl⟩
  have hacB : ac < 18446744073709551616 := by rw [hac]; exact Nat.or_lt_two_pow (n := 64) ha hc
  have hbdB : bd < 18446744073709551616 := by rw [hbd]; exact Nat.or_lt_two_pow (n := 64) hb hd
  have BOA : Hid (bits BinOp.or IntKind.u64 (a : Int) (c : Int) = (ac : Int)) := Lib.hid (by rw [hac]; exact bits_or_u64_nat a c ha hc)
  have BOB : Hid (bits BinOp.or IntKind.u64 (b : Int) (d : Int) = (bd : Int)) := Lib.hid (by rw [hbd]; exact bits_or_u64_nat b d hb hd)
  have SUA : Hid (∀ x ∈ bitsL a n.bases.length, x ∈ bitsL ac n.bases.length) := Lib.hid (by rw [hac]; exact bits_or a c _)
  have SUB : Hid (∀ x ∈ bitsL b n.inputs.length, x ∈ bitsL bd n.inputs.length) := Lib.hid (by rw [hbd]; exact bits_or b d _)
  have HL := Lib.hid (And.intro ha (And.intro hb (And.intro hacB hbdB)))
  clear k NK K1 K2 K3 hac hbd ha hb hc hd hacB hbdB
  have HZ1 := Lib.hid hz1
  have HZ2 := Lib.hid hz2
  clear hz1 hz2
  have OKN : Hid (chkN groundB n = 0 → NOk n) := Lib.hid nok
  have EVB : Hid (chkN groundB n = 0 → ∀ x y, evE groundB (bitsL x n.bases.length) (bitsL y n.inputs.length) n = 0) := Lib.hid (fun e x y => ev_bits e x y)
  generalize hchk : chkN groundB n = ck at *
  clear hchk
  generalize h.gp = gpt at *
  go_enter Try.func4, Try.ntmps4
  go_upto_region 1 with fail
  have e1 := HZ1.out
  have e2 := HZ2.out
  rw [← hW1, ← hW2, ← hWb]
  clear hWb hW1 hW2 e1 e2
  have C1 := Lib.hid (SM.out Wb D0.out)
  obtain ⟨q1, q2, q3, q4, q5, q6, q7, q8, q9, q10, q11⟩ := HQ.out Wb D0.out
  go_wp2_with fail
  refine C1.out.mono ?_
  rintro e w1 ⟨b1, rfl, s1, g1⟩
  have J1 : Hid (Below Wb.heap.size Wb w1) := Lib.hid g1
  have D1 : Hid (Below Wb.heap.size Wb w1) := Lib.hid (next0 D0.out g1)
  have S1 := Lib.hid s1
  clear s1
  clear g1 C1 q1 q2 q3 q4 q5 q6 q7 q8 q9 q10 q11
  cases b1
  · have C2 := Lib.hid (alive_any w1)
    go_wp2_with fail
    refine C2.out.mono ?_
    rintro e w2 ⟨rfl, g2⟩
    have J2 : Hid (Below w1.heap.size w1 w2) := Lib.hid g2
    have D2 : Hid (Below Wb.heap.size Wb w2) := Lib.hid (next0 D1.out g2)
    clear g2 C2
    have DF := Lib.hid (KW.out _ D2.out)
    go_wp2_with fail
    go_ret
    exact ⟨rfl, DF.out⟩
  have ZN := Lib.hid (sz_of (S1.out rfl))
  clear S1
  have C2 := Lib.hid (CR.out ZN.out w1 D1.out)
  obtain ⟨q1, q2, q3, q4, q5, q6, q7, q8, q9, q10, q11⟩ := HQ.out w1 D1.out
  go_wp2_with fail
  refine C2.out.mono ?_
  rintro e w2 ⟨rfl, g2⟩
  have J2 : Hid (Below w1.heap.size w1 w2) := Lib.hid g2
  have D2 : Hid (Below Wb.heap.size Wb w2) := Lib.hid (next0 D1.out g2)
  clear g2 C2 q1 q2 q3 q4 q5 q6 q7 q8 q9 q10 q11
  by_cases hc : ck = 0
  rotate_left
  · have i1 : (ck != 0) = true := by simp [hc]
    clear hc
    have C3 := Lib.hid (alive_any w2)
    go_wp2_with fail
    refine C3.out.mono ?_
    rintro e w3 ⟨rfl, g3⟩
    have J3 : Hid (Below w2.heap.size w2 w3) := Lib.hid g3
    have D3 : Hid (Below Wb.heap.size Wb w3) := Lib.hid (next0 D2.out g3)
    clear g3 C3
    have DF := Lib.hid (KW.out _ D3.out)
    go_wp2_with fail
    go_ret
    exact ⟨rfl, DF.out⟩
  have i1 : (ck != 0) = false := by simp [hc]
  have OK := Lib.hid (OKN.out hc)
  have EV := Lib.hid (EVB.out hc)
  have CV := Lib.hid (fun w' (q : Below Wb.heap.size Wb w') x y vs vi hs hi => show Calls Try.prog 13 #[.agg #[.slice gpt n.gates.length h.gc, .slice h.rp n.roles.length h.rc, .slice h.bp n.bases.length h.bc, .slice h.ip n.inputs.length h.ic, .slice h.ap n.initial.length h.ac, .slice h.np n.next.length h.nc, .slice h.lp n.legal.length h.lc, .slice h.op n.goals.length h.oc, .slice h.sp n.sees.length h.sc, .int .i64 n.last, .bool n.hid], vs, vi] w' (ValsE (valsN (bitsL x n.bases.length) (bitsL y n.inputs.length) n) 0 w') from by
    have := CV0.out ZN.out w' q (bitsL x n.bases.length) (bitsL y n.inputs.length) vs vi hs hi
    rw [evv_ok (EV.out x y), EV.out x y] at this
    exact this)
  clear hc OKN EVB CV0 CR SM
  have hg16 : n.gates.length ≤ 16384 := OK.out.few
  obtain ⟨q1, q2, q3, q4, q5, q6, q7, q8, q9, q10, q11⟩ := HQ.out w2 D2.out
  go_wp2_with fail
  clear i1 q1 q2 q3 q4 q5 q6 q7 q8 q9 q10 q11
  go_loopw [7] (fun i wr => ∃ k : Nat, k ≤ n.gates.length ∧ i = .int .i64 k ∧ Hid (∀ j g, j < k → n.gates[j]? = some g → g.1 ≠ 6) ∧ w2 = wr) (fun i _ => n.gates.length - (intOf i).toNat)
  case atStart => exact ⟨0, Nat.zero_le _, rfl, Lib.hid (fun j g hj => by omega), rfl⟩
  case round =>
    obtain ⟨k, hk, rfl, hT, rfl⟩ := hrel
    obtain ⟨q1, q2, q3, q4, q5, q6, q7, q8, q9, q10, q11⟩ := HQ.out w2 D2.out
    by_cases hlt : k < n.gates.length
    · obtain ⟨⟨gk, gx, gl⟩, hg⟩ : ∃ g, n.gates[k]? = some g := ⟨n.gates[k], List.getElem?_eq_getElem hlt⟩
      obtain ⟨b, o, rfl, c0⟩ := GTS.out k _ hg w2 D2.out
      have j0 : (0 : Int) ≤ (k : Int) := by omega
      have j1 : (k : Int) < n.gates.length := by omega
      have HG := Lib.hid hg
      clear hg
      by_cases h6 : gk = 6
      · have i6 : (gk == 6) = true := by simp [h6]
        clear h6
        have C3 := Lib.hid (alive_any w2)
        go_wp2_with fail
        refine C3.out.mono ?_
        rintro e w3 ⟨rfl, g3⟩
        have J3 : Hid (Below w2.heap.size w2 w3) := Lib.hid g3
        have D3 : Hid (Below Wb.heap.size Wb w3) := Lib.hid (next0 D2.out g3)
        clear g3 C3
        have DF := Lib.hid (KW.out _ D3.out)
        go_wp2_with fail
        go_ret
        exact ⟨rfl, DF.out⟩
      have i6 : (gk == 6) = false := by simp [h6]
      have T2 : Hid (∀ j g, j < k + 1 → n.gates[j]? = some g → g.1 ≠ 6) := Lib.hid (fun j g hj hg => by
        by_cases e : j = k
        · subst e
          rw [HG.out] at hg
          injection hg with hg
          rw [← hg]
          exact h6
        · exact hT.out j g (by omega) hg)
      clear h6 HG
      go_wp2_with fail
      go_roundw
      case rel => first | exact ⟨k + 1, by omega, by go_num, T2, by first | rfl | trivial⟩ | ((repeat (apply Exists.intro)); refine ⟨?_, rfl⟩; exact ⟨k + 1, by omega, by go_num, T2, by first | rfl | trivial⟩)
      case measure => simp [intOf]; omega
    · obtain rfl : k = n.gates.length := by omega
      have N6 : Hid (∀ (k : Nat) g, n.gates[k]? = some g → g.1 ≠ 6) := Lib.hid (fun j g hg => hT.out j g (List.getElem?_eq_some_iff.1 hg).1 hg)
      have MONO := Lib.hid (vals_mono OK.out N6.out SUA.out SUB.out)
      have LA := Lib.hid (valsn_len (bitsL a n.bases.length) (bitsL b n.inputs.length) n)
      have LB := Lib.hid (valsn_len (bitsL ac n.bases.length) (bitsL bd n.inputs.length) n)
      clear N6 SUA SUB hT
      go_upto_region 8 with fail
      clear q1 q2 q3 q4 q5 q6 q7 q8 q9 q10 q11
      have M1 := Lib.hid (fun w' => bits_any a n.bases.length (HL.out.1) w')
      have M2 := Lib.hid (fun w' => bits_any b n.inputs.length (HL.out.2.1) w')
      have CE := Lib.hid (fun w' (q : Below w2.heap.size w2 w') vs vi (hs : RowE KN (· < w'.heap.size) w' (bitsL a n.bases.length) vs) (hi : RowE KN (· < w'.heap.size) w' (bitsL b n.inputs.length) vi) => CV.out w' (next0 D2.out q) _ _ vs vi hs hi)
      have HC := Lib.hid (fun w' (q : Below w2.heap.size w2 w') => CL.out w' (next0 D2.out q))
      go_cut [8, 9] (fun s t wx => t = .int .i64 0 ∧ Hid (StB (valsN (bitsL a n.bases.length) (bitsL b n.inputs.length) n) wx s) ∧ Hid (Below w2.heap.size w2 wx))
      case first =>
        have hq0 : Hid (Below w2.heap.size w2 w2.drew) := Lib.hid (Below.refl _ _).drew
        obtain ⟨x1, x2, x3, x4, x5, x6, x7, x8, x9, x10, x11, x12, x13⟩ := HC.out _ hq0.out
        go_region_held3 (fun w' => w'.cell? ⟨w.heap.size, 0, none⟩ = some (.slice gpt n.gates.length h.gc) ∧ w'.cell? ⟨w.heap.size, 1, none⟩ = some (.slice h.rp n.roles.length h.rc) ∧ w'.cell? ⟨w.heap.size, 2, none⟩ = some (.slice h.bp n.bases.length h.bc) ∧ w'.cell? ⟨w.heap.size, 3, none⟩ = some (.slice h.ip n.inputs.length h.ic) ∧ w'.cell? ⟨w.heap.size, 4, none⟩ = some (.slice h.ap n.initial.length h.ac) ∧ w'.cell? ⟨w.heap.size, 5, none⟩ = some (.slice h.np n.next.length h.nc) ∧ w'.cell? ⟨w.heap.size, 6, none⟩ = some (.slice h.lp n.legal.length h.lc) ∧ w'.cell? ⟨w.heap.size, 7, none⟩ = some (.slice h.op n.goals.length h.oc) ∧ w'.cell? ⟨w.heap.size, 8, none⟩ = some (.slice h.sp n.sees.length h.sc) ∧ w'.cell? ⟨w.heap.size, 9, none⟩ = some (.int .i64 n.last) ∧ w'.cell? ⟨w.heap.size, 10, none⟩ = some (.bool n.hid) ∧ w'.cell? ⟨w.heap.size + 1, 0, none⟩ = some (.int .u64 (a : Int)) ∧ w'.cell? ⟨w.heap.size + 1, 1, none⟩ = some (.int .u64 (b : Int)))
          (first | (with_reducible assumption) | (with_reducible exact ⟨‹_›, ‹_›, ‹_›, ‹_›, ‹_›, ‹_›, ‹_›, ‹_›, ‹_›, ‹_›, ‹_›, ‹_›, ‹_›⟩) | (with_reducible refine HC.out _ ?_; repeat (first | (with_reducible exact Hid.out (by assumption)) | (with_reducible exact Below.refl _ _) | (with_reducible refine Below.drew ?_))))
          (first
            | (go_at_call 20; (try go_split_ands); (with_reducible refine (M1.out _).mono ?_); rintro e wa ⟨ua, rfl, ra, qa⟩; have RA := Lib.hid (StN.of ra); obtain ⟨pa, ca, rfl⟩ := ra.form; have QA := Lib.hid qa; (have QG : Hid (Below w2.heap.size w2 wa) := Lib.hid (by (refine next0 ?_ qa; repeat (first | (with_reducible exact Hid.out (by assumption)) | (with_reducible exact Below.refl _ _) | (with_reducible refine Below.drew ?_))))); clear ra qa; obtain ⟨x1, x2, x3, x4, x5, x6, x7, x8, x9, x10, x11, x12, x13⟩ := HC.out _ QG.out)
            | (go_at_call 20; (try go_split_ands); (with_reducible refine (M2.out _).mono ?_); rintro e wb ⟨ub, rfl, rb, qb⟩; have RB := Lib.hid (StN.of rb); obtain ⟨pb, cb, rfl⟩ := rb.form; have QB := Lib.hid qb; (have QH : Hid (Below w2.heap.size w2 wb) := Lib.hid (by (refine next0 ?_ qb; repeat (first | (with_reducible exact Hid.out (by assumption)) | (with_reducible exact Below.refl _ _) | (with_reducible refine Below.drew ?_))))); clear rb qb; obtain ⟨x1, x2, x3, x4, x5, x6, x7, x8, x9, x10, x11, x12, x13⟩ := HC.out _ QH.out)
            | (go_at_call 13; (try go_split_ands); refine (CE.out _ (by repeat (first | (with_reducible exact Hid.out (by assumption)) | (with_reducible exact Below.refl _ _) | (with_reducible refine Below.drew ?_))) _ _ (RA.out _ (by (repeat (with_reducible refine Below.drew ?_)); first | (with_reducible exact Below.refl _ _) | (first | (exact QB.out) | (refine undrew ?_; (first | (exact QB.out) | (refine undrew ?_; (first | (exact QB.out) | (refine undrew ?_; (first | (exact QB.out) | (refine undrew ?_; (first | (exact QB.out) | (refine undrew ?_; (first | (exact QB.out) | (refine undrew ?_; (first | (exact QB.out) | (refine undrew ?_; (first | (exact QB.out) | (refine undrew ?_; (first | (exact QB.out) | (refine undrew ?_; (first | (exact QB.out) | (refine undrew ?_; (first | (exact QB.out) | (refine undrew ?_; (first | (exact QB.out) | (refine undrew ?_; (first | (exact QB.out) | (refine undrew ?_; (first | (exact QB.out) | (refine undrew ?_; (first | (exact QB.out)))))))))))))))))))))))))))))))) (RB.out _ (by (repeat (with_reducible refine Below.drew ?_)); first | (with_reducible exact Below.refl _ _) | (first | (exact QA.out) | (refine undrew ?_; (first | (exact QA.out) | (refine undrew ?_; (first | (exact QA.out) | (refine undrew ?_; (first | (exact QA.out) | (refine undrew ?_; (first | (exact QA.out) | (refine undrew ?_; (first | (exact QA.out) | (refine undrew ?_; (first | (exact QA.out) | (refine undrew ?_; (first | (exact QA.out) | (refine undrew ?_; (first | (exact QA.out) | (refine undrew ?_; (first | (exact QA.out) | (refine undrew ?_; (first | (exact QA.out) | (refine undrew ?_; (first | (exact QA.out) | (refine undrew ?_; (first | (exact QA.out) | (refine undrew ?_; (first | (exact QA.out) | (refine undrew ?_; (first | (exact QA.out))))))))))))))))))))))))))))))))).mono ?_; rintro e wv ⟨uv, rfl, rv, qv⟩; have RV := Lib.hid (StB.of rv); (have QI : Hid (Below w2.heap.size w2 wv) := Lib.hid (by (refine next0 ?_ qv; repeat (first | (with_reducible exact Hid.out (by assumption)) | (with_reducible exact Below.refl _ _) | (with_reducible refine Below.drew ?_))))); clear rv qv; obtain ⟨x1, x2, x3, x4, x5, x6, x7, x8, x9, x10, x11, x12, x13⟩ := HC.out _ QI.out))
        all_goals
          go_wp2_with fail
          go_meet
          refine ⟨rfl, ?_, ?_⟩
          · first | (with_reducible exact RV) | exact Lib.hid (StB.step RV.out (by (repeat (with_reducible refine Below.drew ?_)); (with_reducible exact Below.refl _ _)))
          · first | (with_reducible exact QI) | exact Lib.hid (by repeat (first | (with_reducible exact QI.out) | (refine Below.drew ?_)))
      case rest =>
        generalize hww : wc = w3 at *
        clear hww
        obtain ⟨rfl, G3, J3⟩ := hcut
        have D3 : Hid (Below Wb.heap.size Wb w3) := Lib.hid (next0 D2.out J3.out)
        obtain ⟨p3, c3, rfl⟩ := (G3.out _ (Below.refl _ _)).form
        clear M1 M2 CE HC
        have CL4 := Lib.hid (fun w' (q : Below Wb.heap.size Wb w') => And.intro (CL.out w' q) (CL3.out w' q))
        clear CL
        have CL : Hid (∀ w', Below Wb.heap.size Wb w' → w'.cell? ⟨w.heap.size, 0, none⟩ = some (.slice gpt n.gates.length h.gc) ∧ w'.cell? ⟨w.heap.size, 1, none⟩ = some (.slice h.rp n.roles.length h.rc) ∧ w'.cell? ⟨w.heap.size, 2, none⟩ = some (.slice h.bp n.bases.length h.bc) ∧ w'.cell? ⟨w.heap.size, 3, none⟩ = some (.slice h.ip n.inputs.length h.ic) ∧ w'.cell? ⟨w.heap.size, 4, none⟩ = some (.slice h.ap n.initial.length h.ac) ∧ w'.cell? ⟨w.heap.size, 5, none⟩ = some (.slice h.np n.next.length h.nc) ∧ w'.cell? ⟨w.heap.size, 6, none⟩ = some (.slice h.lp n.legal.length h.lc) ∧ w'.cell? ⟨w.heap.size, 7, none⟩ = some (.slice h.op n.goals.length h.oc) ∧ w'.cell? ⟨w.heap.size, 8, none⟩ = some (.slice h.sp n.sees.length h.sc) ∧ w'.cell? ⟨w.heap.size, 9, none⟩ = some (.int .i64 n.last) ∧ w'.cell? ⟨w.heap.size, 10, none⟩ = some (.bool n.hid) ∧ w'.cell? ⟨w.heap.size + 1, 0, none⟩ = some (.int .u64 (a : Int)) ∧ w'.cell? ⟨w.heap.size + 1, 1, none⟩ = some (.int .u64 (b : Int)) ∧ w'.cell? ⟨w.heap.size + 1 + 1, 0, none⟩ = some (.int .u64 (c : Int)) ∧ w'.cell? ⟨w.heap.size + 1 + 1, 1, none⟩ = some (.int .u64 (d : Int))) := Lib.hid (fun w' q => by
          obtain ⟨⟨x1, x2, x3, x4, x5, x6, x7, x8, x9, x10, x11, x12, x13⟩, y1, y2⟩ := CL4.out w' q
          exact ⟨x1, x2, x3, x4, x5, x6, x7, x8, x9, x10, x11, x12, x13, y1, y2⟩)
        have boa := BOA.out
        have bob := BOB.out
        go_upto_region 9 with fail
        have M1 := Lib.hid (fun w' => bits_any ac n.bases.length (HL.out.2.2.1) w')
        have M2 := Lib.hid (fun w' => bits_any bd n.inputs.length (HL.out.2.2.2) w')
        have CE := Lib.hid (fun w' (q : Below w3.heap.size w3 w') vs vi (hs : RowE KN (· < w'.heap.size) w' (bitsL ac n.bases.length) vs) (hi : RowE KN (· < w'.heap.size) w' (bitsL bd n.inputs.length) vi) => CV.out w' (next0 D3.out q) _ _ vs vi hs hi)
        have HC := Lib.hid (fun w' (q : Below w3.heap.size w3 w') => CL.out w' (next0 D3.out q))
        go_cut [10, 11] (fun s t wx => t = .int .i64 0 ∧ Hid (StB (valsN (bitsL ac n.bases.length) (bitsL bd n.inputs.length) n) wx s) ∧ Hid (Below w3.heap.size w3 wx))
        case first =>
          have hq0 : Hid (Below w3.heap.size w3 w3.drew) := Lib.hid (Below.refl _ _).drew
          obtain ⟨x1, x2, x3, x4, x5, x6, x7, x8, x9, x10, x11, x12, x13, x14, x15⟩ := HC.out _ hq0.out
          go_region_held3 (fun w' => w'.cell? ⟨w.heap.size, 0, none⟩ = some (.slice gpt n.gates.length h.gc) ∧ w'.cell? ⟨w.heap.size, 1, none⟩ = some (.slice h.rp n.roles.length h.rc) ∧ w'.cell? ⟨w.heap.size, 2, none⟩ = some (.slice h.bp n.bases.length h.bc) ∧ w'.cell? ⟨w.heap.size, 3, none⟩ = some (.slice h.ip n.inputs.length h.ic) ∧ w'.cell? ⟨w.heap.size, 4, none⟩ = some (.slice h.ap n.initial.length h.ac) ∧ w'.cell? ⟨w.heap.size, 5, none⟩ = some (.slice h.np n.next.length h.nc) ∧ w'.cell? ⟨w.heap.size, 6, none⟩ = some (.slice h.lp n.legal.length h.lc) ∧ w'.cell? ⟨w.heap.size, 7, none⟩ = some (.slice h.op n.goals.length h.oc) ∧ w'.cell? ⟨w.heap.size, 8, none⟩ = some (.slice h.sp n.sees.length h.sc) ∧ w'.cell? ⟨w.heap.size, 9, none⟩ = some (.int .i64 n.last) ∧ w'.cell? ⟨w.heap.size, 10, none⟩ = some (.bool n.hid) ∧ w'.cell? ⟨w.heap.size + 1, 0, none⟩ = some (.int .u64 (a : Int)) ∧ w'.cell? ⟨w.heap.size + 1, 1, none⟩ = some (.int .u64 (b : Int)) ∧ w'.cell? ⟨w.heap.size + 1 + 1, 0, none⟩ = some (.int .u64 (c : Int)) ∧ w'.cell? ⟨w.heap.size + 1 + 1, 1, none⟩ = some (.int .u64 (d : Int)))
            (first | (with_reducible assumption) | (with_reducible exact ⟨‹_›, ‹_›, ‹_›, ‹_›, ‹_›, ‹_›, ‹_›, ‹_›, ‹_›, ‹_›, ‹_›, ‹_›, ‹_›, ‹_›, ‹_›⟩) | (with_reducible refine HC.out _ ?_; repeat (first | (with_reducible exact Hid.out (by assumption)) | (with_reducible exact Below.refl _ _) | (with_reducible refine Below.drew ?_))))
            (first
              | (go_at_call 20; (try go_split_ands); (with_reducible refine (M1.out _).mono ?_); rintro e wa ⟨ua, rfl, ra, qa⟩; have RA := Lib.hid (StN.of ra); obtain ⟨pa, ca, rfl⟩ := ra.form; have QA := Lib.hid qa; (have QG : Hid (Below w3.heap.size w3 wa) := Lib.hid (by (refine next0 ?_ qa; repeat (first | (with_reducible exact Hid.out (by assumption)) | (with_reducible exact Below.refl _ _) | (with_reducible refine Below.drew ?_))))); clear ra qa; obtain ⟨x1, x2, x3, x4, x5, x6, x7, x8, x9, x10, x11, x12, x13, x14, x15⟩ := HC.out _ QG.out)
              | (go_at_call 20; (try go_split_ands); (with_reducible refine (M2.out _).mono ?_); rintro e wb ⟨ub, rfl, rb, qb⟩; have RB := Lib.hid (StN.of rb); obtain ⟨pb, cb, rfl⟩ := rb.form; have QB := Lib.hid qb; (have QH : Hid (Below w3.heap.size w3 wb) := Lib.hid (by (refine next0 ?_ qb; repeat (first | (with_reducible exact Hid.out (by assumption)) | (with_reducible exact Below.refl _ _) | (with_reducible refine Below.drew ?_))))); clear rb qb; obtain ⟨x1, x2, x3, x4, x5, x6, x7, x8, x9, x10, x11, x12, x13, x14, x15⟩ := HC.out _ QH.out)
              | (go_at_call 13; (try go_split_ands); refine (CE.out _ (by repeat (first | (with_reducible exact Hid.out (by assumption)) | (with_reducible exact Below.refl _ _) | (with_reducible refine Below.drew ?_))) _ _ (RA.out _ (by (repeat (with_reducible refine Below.drew ?_)); first | (with_reducible exact Below.refl _ _) | (first | (exact QB.out) | (refine undrew ?_; (first | (exact QB.out) | (refine undrew ?_; (first | (exact QB.out) | (refine undrew ?_; (first | (exact QB.out) | (refine undrew ?_; (first | (exact QB.out) | (refine undrew ?_; (first | (exact QB.out) | (refine undrew ?_; (first | (exact QB.out) | (refine undrew ?_; (first | (exact QB.out) | (refine undrew ?_; (first | (exact QB.out) | (refine undrew ?_; (first | (exact QB.out) | (refine undrew ?_; (first | (exact QB.out) | (refine undrew ?_; (first | (exact QB.out) | (refine undrew ?_; (first | (exact QB.out) | (refine undrew ?_; (first | (exact QB.out) | (refine undrew ?_; (first | (exact QB.out)))))))))))))))))))))))))))))))) (RB.out _ (by (repeat (with_reducible refine Below.drew ?_)); first | (with_reducible exact Below.refl _ _) | (first | (exact QA.out) | (refine undrew ?_; (first | (exact QA.out) | (refine undrew ?_; (first | (exact QA.out) | (refine undrew ?_; (first | (exact QA.out) | (refine undrew ?_; (first | (exact QA.out) | (refine undrew ?_; (first | (exact QA.out) | (refine undrew ?_; (first | (exact QA.out) | (refine undrew ?_; (first | (exact QA.out) | (refine undrew ?_; (first | (exact QA.out) | (refine undrew ?_; (first | (exact QA.out) | (refine undrew ?_; (first | (exact QA.out) | (refine undrew ?_; (first | (exact QA.out) | (refine undrew ?_; (first | (exact QA.out) | (refine undrew ?_; (first | (exact QA.out) | (refine undrew ?_; (first | (exact QA.out))))))))))))))))))))))))))))))))).mono ?_; rintro e wv ⟨uv, rfl, rv, qv⟩; have RV := Lib.hid (StB.of rv); (have QI : Hid (Below w3.heap.size w3 wv) := Lib.hid (by (refine next0 ?_ qv; repeat (first | (with_reducible exact Hid.out (by assumption)) | (with_reducible exact Below.refl _ _) | (with_reducible refine Below.drew ?_))))); clear rv qv; obtain ⟨x1, x2, x3, x4, x5, x6, x7, x8, x9, x10, x11, x12, x13, x14, x15⟩ := HC.out _ QI.out))
          all_goals
            go_wp2_with fail
            go_meet
            refine ⟨rfl, ?_, ?_⟩
            · first | (with_reducible exact RV) | exact Lib.hid (StB.step RV.out (by (repeat (with_reducible refine Below.drew ?_)); (with_reducible exact Below.refl _ _)))
            · first | (with_reducible exact QI) | exact Lib.hid (by repeat (first | (with_reducible exact QI.out) | (refine Below.drew ?_)))
        case rest =>
          generalize hww2 : wc = w4 at *
          clear hww2 boa bob
          obtain ⟨rfl, G4, J4⟩ := hcut
          have D4 : Hid (Below Wb.heap.size Wb w4) := Lib.hid (next0 D3.out J4.out)
          obtain ⟨p4, c4, rfl⟩ := (G4.out _ (Below.refl _ _)).form
          clear M1 M2 CE HC CL CL3 CV
          have IA := Lib.hid (readb (G3.out w4 J4.out) (fun b hb => hb))
          have IB := Lib.hid (readb (G4.out w4 (Below.refl _ _)) (fun b hb => hb))
          obtain ⟨q1, q2, q3, q4, q5, q6, q7, q8, q9, q10, q11⟩ := HQ.out w4 D4.out
          generalize valsN (bitsL a n.bases.length) (bitsL b n.inputs.length) n = S1 at *
          generalize valsN (bitsL ac n.bases.length) (bitsL bd n.inputs.length) n = S2 at *
          generalize hm : n.gates.length = m at *
          clear hm
          generalize hla : S1.length = la at *
          have HLA := Lib.hid hla
          generalize hlb : S2.length = lb at *
          have HLB := Lib.hid hlb
          clear hla hlb
          have ea := LA.out.symm
          have eb := LB.out.symm
          subst ea eb
          go_wp2_with fail
          clear q1 q2 q3 q4 q5 q6 q7 q8 q9 q10 q11
          go_loopw [12] (fun i wr => ∃ k : Nat, k ≤ m ∧ i = .int .i64 k ∧ w4 = wr) (fun i _ => m - (intOf i).toNat)
          case atStart => exact ⟨0, Nat.zero_le _, rfl, rfl⟩
          case round =>
            obtain ⟨k, hk, rfl, rfl⟩ := hrel
            by_cases hlt : k < m
            · obtain ⟨xa, hxa⟩ : ∃ x, S1[k]? = some x := ⟨S1[k]'(by rw [HLA.out]; exact hlt), by simp⟩
              obtain ⟨xb, hxb⟩ : ∃ x, S2[k]? = some x := ⟨S2[k]'(by rw [HLB.out]; exact hlt), by simp⟩
              obtain ⟨g1, o1, rfl, c1⟩ := IA.out k xa hxa w4 (Below.refl _ _)
              obtain ⟨g2, o2, rfl, c2⟩ := IB.out k xb hxb w4 (Below.refl _ _)
              have MO := MONO.out k hlt
              rw [show vAt S1 (k : Int) = xa from v_get (by rw [Int.toNat_natCast]; exact hxa), show vAt S2 (k : Int) = xb from v_get (by rw [Int.toNat_natCast]; exact hxb)] at MO
              have HMO := Lib.hid MO
              have j0 : (0 : Int) ≤ (k : Int) := by omega
              have j1 : (k : Int) < m := by omega
              clear hxa hxb MO
              cases xa
              · go_wp2_with fail
                go_roundw
                case rel => first | exact ⟨k + 1, by omega, by go_num, by first | rfl | trivial⟩ | ((repeat (apply Exists.intro)); refine ⟨?_, rfl⟩; exact ⟨k + 1, by omega, by go_num, by first | rfl | trivial⟩)
                case measure => simp [intOf]; omega
              · obtain rfl : xb = true := HMO.out rfl
                go_wp2_with fail
                go_roundw
                case rel => first | exact ⟨k + 1, by omega, by go_num, by first | rfl | trivial⟩ | ((repeat (apply Exists.intro)); refine ⟨?_, rfl⟩; exact ⟨k + 1, by omega, by go_num, by first | rfl | trivial⟩)
                case measure => simp [intOf]; omega
            · obtain rfl : k = m := by omega
              have CA := Lib.hid (alive_any w4)
              go_wp2_with fail
              refine CA.out.mono ?_
              rintro e w9 ⟨rfl, g9⟩
              have DF := Lib.hid (KW.out _ (next0 D4.out g9))
              clear g9 CA
              go_wp2_with fail
              go_ret
              exact ⟨rfl, DF.out⟩
end NetE2
end Go.Proofs.Ytkfeliogglnngaa
