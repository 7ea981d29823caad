/- The walk of EvaluateApart. No conditions. Made by gnE3.py. -/
import Derived.Test.YtkfeliogglnngaaNetPs
import Derived.Test.YtkfeliogglnngaaNetA3
import Derived.Test.YtkfeliogglnngaaNetBt
import Derived.Test.YtkfeliogglnngaaNetE2
import Derived.Test.YtkfeliogglnngaaNetCr
import Derived.Test.YtkfeliogglnngaaNetCd
import Derived.Test.YtkfeliogglnngaaNetY
import Derived.Test.YtkfeliogglnngaaNetSz
import Derived.Laws.Bits64b
namespace Go.Proofs.Ytkfeliogglnngaa
open Go Go.RowKit
namespace NetE3
open Kit LexM TermM TermI TermH NetM NetN NetK NetA NetC NetI NetMk NetNu NetOk NetEv NetBo NetMb NetS NetVa NetVv NetTr NetSa NetA3 NetSl NetSz NetBp NetBt NetMo NetSt NetCo NetCc NetCd NetCr
set_option maxRecDepth 100000 in
set_option maxHeartbeats 6400000 in
theorem law (n : Nt) (h : Nh) (a b c d : Nat) (w : World) (ha : a < 18446744073709551616) (hb : b < 18446744073709551616) (hc : c < 18446744073709551616) (hd : d < 18446744073709551616) (k : NetIn (· < w.heap.size) w n h) :
    Calls Try.prog 5 #[.agg #[.slice h.gp n.gates.length h.gc, .slice h.rp n.roles.length h.rc, .slice h.bp n.bases.length h.bc, .slice h.ip n.inputs.length h.ic, .slice h.ap n.initial.length h.ac, .slice h.np n.next.length h.nc, .slice h.lp n.legal.length h.lc, .slice h.op n.goals.length h.oc, .slice h.sp n.sees.length h.sc, .int .i64 n.last, .bool n.hid], .agg #[.int .u64 (a : Int), .int .u64 (b : Int)], .agg #[.int .u64 (c : Int), .int .u64 (d : Int)]] w fun e w' => e = .returned (.bool true) ∧ Below w.heap.size w w' := by
  obtain ⟨W1, hW1⟩ : ∃ z, z = w.alloc (.cells #[.slice h.gp n.gates.length h.gc, .slice h.rp n.roles.length h.rc, .slice h.bp n.bases.length h.bc, .slice h.ip n.inputs.length h.ic, .slice h.ap n.initial.length h.ac, .slice h.np n.next.length h.nc, .slice h.lp n.legal.length h.lc, .slice h.op n.goals.length h.oc, .slice h.sp n.sees.length h.sc, .int .i64 n.last, .bool n.hid] 28) := ⟨_, rfl⟩
  obtain ⟨W2, hW2⟩ : ∃ z, z = W1.alloc (.cells #[.int .u64 (a : Int), .int .u64 (b : Int)] 45) := ⟨_, rfl⟩
  obtain ⟨Wb, hWb⟩ : ∃ z, z = W2.alloc (.cells #[.int .u64 (c : Int), .int .u64 (d : Int)] 45) := ⟨_, rfl⟩
  have K1 : Hid (Below w.heap.size w W1) := Lib.hid (by rw [hW1]; exact below_alloc _ _)
  have K2 : Hid (Below W1.heap.size W1 W2) := Lib.hid (by rw [hW2]; exact below_alloc _ _)
  have K3 : Hid (Below W2.heap.size W2 Wb) := Lib.hid (by rw [hWb]; exact below_alloc _ _)
  have hz1 : W1.heap.size = w.heap.size + 1 := by rw [hW1]; simp
  have hz2 : W2.heap.size = w.heap.size + 2 := by rw [hW2]; simp [hz1]
  have BB : Hid (Below w.heap.size w Wb) := Lib.hid (next0 (next0 K1.out K2.out) K3.out)
  have H1 : Hid (Has Wb w.heap.size (netC n h)) := Lib.hid (by rw [hWb, hW2, hW1]; exact ((Has.new _ _ _).alloc _).alloc _)
  have H2 : Hid (Has Wb (w.heap.size + 1) #[.int .u64 (a : Int), .int .u64 (b : Int)]) := Lib.hid (by rw [hWb, hW2, ← hz1]; exact (Has.new _ _ _).alloc _)
  have H3 : Hid (Has Wb (w.heap.size + 1 + 1) #[.int .u64 (c : Int), .int .u64 (d : Int)]) := Lib.hid (by rw [hWb, show w.heap.size + 1 + 1 = W2.heap.size by omega]; exact Has.new _ _ _)
  have hzB := BB.out.size
  have hlen : n.gates.length ≤ maxLen := by obtain ⟨_, h1, h2⟩ := k.gates.cap; omega
  unfold maxLen at hlen
  have KW := Lib.hid (fun w' (q : Below Wb.heap.size Wb w') => show Below w.heap.size w w' from BB.out.trans (q.mono hzB))
  have NK := Lib.hid (fun w' (q : Below Wb.heap.size Wb w') => k.deep (KW.out w' q) (Nat.le_refl _))
  have HQ := Lib.hid (fun w' (q : Below Wb.heap.size Wb w') => hasN (H1.out.step0 q))
  have CL : Hid (∀ w', Below Wb.heap.size Wb w' → w'.cell? ⟨w.heap.size, 0, none⟩ = some (.slice h.gp n.gates.length h.gc) ∧ w'.cell? ⟨w.heap.size, 1, none⟩ = some (.slice h.rp n.roles.length h.rc) ∧ w'.cell? ⟨w.heap.size, 2, none⟩ = some (.slice h.bp n.bases.length h.bc) ∧ w'.cell? ⟨w.heap.size, 3, none⟩ = some (.slice h.ip n.inputs.length h.ic) ∧ w'.cell? ⟨w.heap.size, 4, none⟩ = some (.slice h.ap n.initial.length h.ac) ∧ w'.cell? ⟨w.heap.size, 5, none⟩ = some (.slice h.np n.next.length h.nc) ∧ w'.cell? ⟨w.heap.size, 6, none⟩ = some (.slice h.lp n.legal.length h.lc) ∧ w'.cell? ⟨w.heap.size, 7, none⟩ = some (.slice h.op n.goals.length h.oc) ∧ w'.cell? ⟨w.heap.size, 8, none⟩ = some (.slice h.sp n.sees.length h.sc) ∧ w'.cell? ⟨w.heap.size, 9, none⟩ = some (.int .i64 n.last) ∧ w'.cell? ⟨w.heap.size, 10, none⟩ = some (.bool n.hid) ∧ w'.cell? ⟨w.heap.size + 1, 0, none⟩ = some (.int .u64 (a : Int)) ∧ w'.cell? ⟨w.heap.size + 1, 1, none⟩ = some (.int .u64 (b : Int))) := Lib.hid (fun w' q => by
    obtain ⟨q1, q2, q3, q4, q5, q6, q7, q8, q9, q10, q11⟩ := hasN (H1.out.step0 q)
    exact ⟨q1, q2, q3, q4, q5, q6, q7, q8, q9, q10, q11, (H2.out.step0 q).cell 0, (H2.out.step0 q).cell 1⟩)
  have CL3 : Hid (∀ w', Below Wb.heap.size Wb w' → w'.cell? ⟨w.heap.size + 1 + 1, 0, none⟩ = some (.int .u64 (c : Int)) ∧ w'.cell? ⟨w.heap.size + 1 + 1, 1, none⟩ = some (.int .u64 (d : Int))) := Lib.hid (fun w' q => ⟨(H3.out.step0 q).cell 0, (H3.out.step0 q).cell 1⟩)
  have SM := Lib.hid (fun w' (q : Below Wb.heap.size Wb w') => NetSl.law_small n h w.heap.size w' (KW.out w' q).size (NK.out w' q))
  have CR := Lib.hid (fun (hz : SzN n) w' (q : Below Wb.heap.size Wb w') => NetY.rcheck_any n h w.heap.size w' (KW.out w' q).size (NK.out w' q) hz.next hz.legal hz.goals hz.seen)
  have CV0 := Lib.hid (fun (hz : SzN n) w' (q : Below Wb.heap.size Wb w') st ip vs vi hs hi => values_any n h st ip w'.heap.size w' vs vi (Nat.le_refl _) ((NK.out w' q).wide fun b hb => Nat.lt_of_lt_of_le hb (KW.out w' q).size) hz hs hi)
  have CC := Lib.hid (fun (hz : SzN n) w' (q : Below Wb.heap.size Wb w') g => rcone_any n h g w.heap.size w' (KW.out w' q).size (NK.out w' q) hz)
  have GTS := Lib.hid (fun k g (hg : n.gates[k]? = some g) w' (q : Below Wb.heap.size Wb w') => show ∃ v b o, h.gp = some ⟨b, o, none⟩ ∧ b < w.heap.size ∧ w'.cell? ⟨b, o + k * 3, none⟩ = some (.int .i64 g.1) ∧ w'.cell? ⟨b, o + k * 3 + 1, none⟩ = some (.int .i64 g.2.1) ∧ w'.cell? ⟨b, o + k * 3 + 2, none⟩ = some v ∧ ∃ p c, v = .slice p g.2.2.length c from by
    obtain ⟨v, b, o, e1, e2, e3, e4⟩ := (NK.out w' q).gates.at hg
    exact ⟨v, b, o, e1, e2, by have := e4 0 _ rfl; simpa [KG] using this, by have := e4 1 _ rfl; simpa [KG] using this, by have := e4 2 _ rfl; simpa [KG] using this, e3.1.form⟩)
  have D0 : Hid (Below Wb.heap.size Wb Wb) := Lib.hid (Below.refl _ _)
  have HL := Lib.hid (And.intro ha (And.intro hb (And.intro hc hd)))
  clear k NK K1 K2 K3 ha hb hc hd
  have HZ1 := Lib.hid hz1
  have HZ2 := Lib.hid hz2
  clear hz1 hz2
  have OKN : Hid (chkN groundB n = 0 → NOk n) := Lib.hid nok
  have CY : Hid (chkN groundB n = 0 → ∀ gn : Nat, gn < n.gates.length → coneE groundB n gn = coneN n gn) := Lib.hid (fun e gn hg => cone_yes e hg)
  have EVB : Hid (chkN groundB n = 0 → ∀ x y, evE groundB (bitsL x n.bases.length) (bitsL y n.inputs.length) n = 0) := Lib.hid (fun e x y => ev_bits e x y)
  generalize hchk : chkN groundB n = ck at *
  clear hchk
  generalize h.gp = gpt at *
  go_enter Try.func5, Try.ntmps5
  go_upto_region 1 with fail
  have e1 := HZ1.out
  have e2 := HZ2.out
  rw [← hW1, ← hW2, ← hWb]
  clear hWb hW1 hW2 e1 e2
  have C1 := Lib.hid (SM.out Wb D0.out)
  obtain ⟨q1, q2, q3, q4, q5, q6, q7, q8, q9, q10, q11⟩ := HQ.out Wb D0.out
  go_wp2_with fail
  refine C1.out.mono ?_
  rintro e w1 ⟨b1, rfl, s1, g1⟩
  have J1 : Hid (Below Wb.heap.size Wb w1) := Lib.hid g1
  have D1 : Hid (Below Wb.heap.size Wb w1) := Lib.hid (next0 D0.out g1)
  have S1 := Lib.hid s1
  clear s1
  clear g1 C1 q1 q2 q3 q4 q5 q6 q7 q8 q9 q10 q11
  cases b1
  · have C2 := Lib.hid (alive_any w1)
    go_wp2_with fail
    refine C2.out.mono ?_
    rintro e w2 ⟨rfl, g2⟩
    have J2 : Hid (Below w1.heap.size w1 w2) := Lib.hid g2
    have D2 : Hid (Below Wb.heap.size Wb w2) := Lib.hid (next0 D1.out g2)
    clear g2 C2
    have DF := Lib.hid (KW.out _ D2.out)
    go_wp2_with fail
    go_ret
    exact ⟨rfl, DF.out⟩
  have ZN := Lib.hid (sz_of (S1.out rfl))
  have SMX := S1
  clear S1
  have C2 := Lib.hid (CR.out ZN.out w1 D1.out)
  obtain ⟨q1, q2, q3, q4, q5, q6, q7, q8, q9, q10, q11⟩ := HQ.out w1 D1.out
  go_wp2_with fail
  refine C2.out.mono ?_
  rintro e w2 ⟨rfl, g2⟩
  have J2 : Hid (Below w1.heap.size w1 w2) := Lib.hid g2
  have D2 : Hid (Below Wb.heap.size Wb w2) := Lib.hid (next0 D1.out g2)
  clear g2 C2 q1 q2 q3 q4 q5 q6 q7 q8 q9 q10 q11
  by_cases hc : ck = 0
  rotate_left
  · have i1 : (ck != 0) = true := by simp [hc]
    clear hc
    have C3 := Lib.hid (alive_any w2)
    go_wp2_with fail
    refine C3.out.mono ?_
    rintro e w3 ⟨rfl, g3⟩
    have J3 : Hid (Below w2.heap.size w2 w3) := Lib.hid g3
    have D3 : Hid (Below Wb.heap.size Wb w3) := Lib.hid (next0 D2.out g3)
    clear g3 C3
    have DF := Lib.hid (KW.out _ D3.out)
    go_wp2_with fail
    go_ret
    exact ⟨rfl, DF.out⟩
  have i1 : (ck != 0) = false := by simp [hc]
  have OK := Lib.hid (OKN.out hc)
  have EV := Lib.hid (EVB.out hc)
  have CV := Lib.hid (fun w' (q : Below Wb.heap.size Wb w') x y vs vi hs hi => show Calls Try.prog 13 #[.agg #[.slice gpt n.gates.length h.gc, .slice h.rp n.roles.length h.rc, .slice h.bp n.bases.length h.bc, .slice h.ip n.inputs.length h.ic, .slice h.ap n.initial.length h.ac, .slice h.np n.next.length h.nc, .slice h.lp n.legal.length h.lc, .slice h.op n.goals.length h.oc, .slice h.sp n.sees.length h.sc, .int .i64 n.last, .bool n.hid], vs, vi] w' (ValsE (valsN (bitsL x n.bases.length) (bitsL y n.inputs.length) n) 0 w') from by
    have := CV0.out ZN.out w' q (bitsL x n.bases.length) (bitsL y n.inputs.length) vs vi hs hi
    rw [evv_ok (EV.out x y), EV.out x y] at this
    exact this)
  have CYN := Lib.hid (CY.out hc)
  have CN := Lib.hid (fun w' (q : Below Wb.heap.size Wb w') (g : Nat) hg => show Calls Try.prog 21 #[.agg #[.slice gpt n.gates.length h.gc, .slice h.rp n.roles.length h.rc, .slice h.bp n.bases.length h.bc, .slice h.ip n.inputs.length h.ic, .slice h.ap n.initial.length h.ac, .slice h.np n.next.length h.nc, .slice h.lp n.legal.length h.lc, .slice h.op n.goals.length h.oc, .slice h.sp n.sees.length h.sc, .int .i64 n.last, .bool n.hid], .int .i64 g] w' (NlE (coneN n g) w') from by
    have := CC.out ZN.out w' q (g : Int)
    rw [CYN.out g hg] at this
    exact this)
  clear hc OKN EVB CV0 CR SM CY CYN CC
  have hg16 : n.gates.length ≤ 16384 := OK.out.few
  obtain ⟨q1, q2, q3, q4, q5, q6, q7, q8, q9, q10, q11⟩ := HQ.out w2 D2.out
  go_wp2_with fail
  clear i1 q1 q2 q3 q4 q5 q6 q7 q8 q9 q10 q11
  go_loopw [7] (fun i wr => ∃ k : Nat, k ≤ n.gates.length ∧ i = .int .i64 k ∧ Hid (Below Wb.heap.size Wb wr)) (fun i _ => n.gates.length - (intOf i).toNat)
  case atStart => exact ⟨0, Nat.zero_le _, rfl, D2⟩
  case round =>
    obtain ⟨k, hk, rfl, hD⟩ := hrel
    generalize hwo : wr = wo at *
    clear hwo
    obtain ⟨q1, q2, q3, q4, q5, q6, q7, q8, q9, q10, q11⟩ := HQ.out wo hD.out
    by_cases hlt : k < n.gates.length
    · have j0 : (0 : Int) ≤ (k : Int) := by omega
      have j1 : (k : Int) < n.gates.length := by omega
      have C3 := Lib.hid (CN.out wo hD.out k hlt)
      have CS := Lib.hid (cone_self hlt)
      have CRG := Lib.hid (cone_range (n := n) (g := k))
      have CMM := Lib.hid (fun j => cone_mem (n := n) (g := k) (j := j))
      go_wp2_with fail
      refine C3.out.mono ?_
      rintro e w3 ⟨v3, rfl, hv3, g3⟩
      have D3 : Hid (Below Wb.heap.size Wb w3) := Lib.hid (next0 hD.out g3)
      obtain ⟨p3, c3, rfl⟩ := hv3.form
      have IC := Lib.hid (readn hv3 (fun b hb => hb.2))
      have hcl : (coneN n k).length ≤ maxLen := by obtain ⟨_, h1, h2⟩ := hv3.cap; exact Nat.le_trans h1 h2
      unfold maxLen at hcl
      have ON2 := Lib.hid (fun j x (hx : (coneN n k)[j]? = some x) => ors_next n 2 (coneN n k) hx)
      have ON3 := Lib.hid (fun j x (hx : (coneN n k)[j]? = some x) => ors_next n 3 (coneN n k) hx)
      clear g3 C3 hv3 q1 q2 q3 q4 q5 q6 q7 q8 q9 q10 q11
      generalize hlc : (coneN n k).length = lc at *
      have HLC := Lib.hid hlc
      clear hlc
      go_wp2_with fail
      go_loopw [9, 10, 11] (fun s t i wr => ∃ (j sn tn : Nat), j ≤ lc ∧ i = .int .i64 j ∧ s = .int .u64 (sn : Int) ∧ t = .int .u64 (tn : Int) ∧ Hid (sn < 2 ^ 64 ∧ tn < 2 ^ 64) ∧ Hid (sn = orsK n 2 ((coneN n k).take j)) ∧ Hid (tn = orsK n 3 ((coneN n k).take j)) ∧ Hid (Below w3.heap.size w3 wr)) (fun _ _ i _ => lc - (intOf i).toNat)
      case atStart => exact ⟨0, 0, 0, Nat.zero_le _, rfl, rfl, rfl, Lib.hid ⟨by decide, by decide⟩, Lib.hid rfl, Lib.hid rfl, Lib.hid (Below.refl _ _)⟩
      case round =>
        generalize hwq : wr = wq at *
        clear hwq
        obtain ⟨j, sn, tn, hj, rfl, rfl, rfl, hF, hS, hT, hQ⟩ := hrel
        have DQ : Hid (Below Wb.heap.size Wb wq) := Lib.hid (next0 D3.out hQ.out)
        by_cases hjl : j < lc
        · obtain ⟨x, hx⟩ : ∃ x, (coneN n k)[j]? = some x := ⟨(coneN n k)[j]'(by rw [HLC.out]; exact hjl), by simp⟩
          obtain ⟨g', o', rfl, cx⟩ := IC.out j x hx wq hQ.out
          have hxr := CRG.out x (List.mem_of_getElem? hx)
          obtain ⟨t, rfl⟩ : ∃ t : Nat, x = (t : Int) := ⟨x.toNat, by omega⟩
          obtain ⟨⟨gk, gx, gl⟩, hg⟩ : ∃ g, n.gates[t]? = some g := ⟨n.gates[t]'(by omega), by simp⟩
          obtain ⟨v, b, o, rfl, hbw, e0, e1, e2, pv, cv, rfl⟩ := GTS.out t _ hg wq DQ.out
          have KA := Lib.hid (k_get hg)
          have OKG := Lib.hid (OK.out.gate t _ hg)
          have t0 : (0 : Int) ≤ (j : Int) := by omega
          have t1 : (j : Int) < lc := by omega
          have t2 : (0 : Int) ≤ (t : Int) := by omega
          have t3 : (t : Int) < n.gates.length := hxr.2
          have q1 := (HQ.out wq DQ.out).1
          have HXX := Lib.hid hx
          have HG := Lib.hid hg
          clear hx hxr hg
          go_upto_region 11 with fail
          go_cut [12] (fun s wx => ∃ g : Nat, s = .pointer (some ⟨g, 0, none⟩) ∧ Hid (Has wx g #[.int .i64 gk, .int .i64 gx, .slice pv gl.length cv]) ∧ Hid (Below wq.heap.size wq wx))
          case first =>
            have FX := Lib.hid (fun w' (q : Below wq.heap.size wq w') => show w'.cell? ⟨w.heap.size, 0, none⟩ = some (.slice (some ⟨b, o, none⟩) n.gates.length h.gc) ∧ w'.cell? ⟨g', o' + j, none⟩ = some (.int .i64 (t : Int)) ∧ w'.cell? ⟨b, o + t * 3, none⟩ = some (.int .i64 gk) ∧ w'.cell? ⟨b, o + t * 3 + 1, none⟩ = some (.int .i64 gx) ∧ w'.cell? ⟨b, o + t * 3 + 2, none⟩ = some (.slice pv gl.length cv) from ⟨(q.cell (p := ⟨w.heap.size, 0, none⟩) (block_lt_of_cell q1)).trans q1, (q.cell (p := ⟨g', o' + j, none⟩) (block_lt_of_cell cx)).trans cx, (q.cell (p := ⟨b, _, none⟩) (block_lt_of_cell e0)).trans e0, (q.cell (p := ⟨b, _, none⟩) (block_lt_of_cell e1)).trans e1, (q.cell (p := ⟨b, _, none⟩) (block_lt_of_cell e2)).trans e2⟩)
            clear q1 cx e0 e1 e2
            have hq0 : Hid (Below wq.heap.size wq wq.drew) := Lib.hid (Below.refl _ _).drew
            refine wp_region_held_drew (S := (fun w' => w'.cell? ⟨w.heap.size, 0, none⟩ = some (.slice (some ⟨b, o, none⟩) n.gates.length h.gc) ∧ w'.cell? ⟨g', o' + j, none⟩ = some (.int .i64 (t : Int)) ∧ w'.cell? ⟨b, o + t * 3, none⟩ = some (.int .i64 gk) ∧ w'.cell? ⟨b, o + t * 3 + 1, none⟩ = some (.int .i64 gx) ∧ w'.cell? ⟨b, o + t * 3 + 2, none⟩ = some (.slice pv gl.length cv))) (by kernel_rfl) (FX.out _ hq0.out) (fun hHeld => ?_)
            generalize hw0 : wq.drew = wd at hHeld hq0 ⊢
            clear hw0
            refine wpAnyH_take (i := 0) (v := ?_) rfl (by kernel_rfl) (by kernel_rfl) (by kernel_rfl) (fun _ _ _ h => h) (Or.inl ⟨by rfl, ?_⟩) (by assumption) ?_
            rotate_left
            · intro w' hSw; (try dsimp only at hSw); (try simp only [List.getElem_toArray, List.getElem_cons_zero]); go_simp; try with_reducible rfl
            (try simp only [List.getElem_toArray, List.getElem_cons_zero, Act.put, List.setIfInBounds_toArray, List.set_cons_zero, List.set_cons_succ])
            refine wpAnyH_take (i := 1) (v := ?_) rfl (by kernel_rfl) (by kernel_rfl) (by kernel_rfl) (fun _ _ _ h => h) (Or.inl ⟨by rfl, ?_⟩) (by assumption) ?_
            rotate_left
            · intro w' hSw; (try dsimp only at hSw); (try simp only [List.getElem_toArray, List.getElem_cons_zero, List.getElem_cons_succ]); go_simp; try with_reducible rfl
            (try simp only [List.getElem_toArray, List.getElem_cons_zero, List.getElem_cons_succ, Act.put, List.setIfInBounds_toArray, List.set_cons_zero, List.set_cons_succ])
            refine wpAnyH_take (i := 2) (v := ?_) rfl (by kernel_rfl) (by kernel_rfl) (by kernel_rfl) (fun _ _ _ h => h) (Or.inl ⟨by rfl, ?_⟩) (by assumption) ?_
            rotate_left
            · intro w' hSw; (try dsimp only at hSw); (try simp only [List.getElem_toArray, List.getElem_cons_zero, List.getElem_cons_succ]); go_simp; try with_reducible rfl
            (try simp only [List.getElem_toArray, List.getElem_cons_zero, List.getElem_cons_succ, Act.put, List.setIfInBounds_toArray, List.set_cons_zero, List.set_cons_succ])
            refine wpAnyH_take (i := 3) (v := ?_) rfl (by kernel_rfl) (by kernel_rfl) (by kernel_rfl) (fun _ _ _ h => h) (Or.inl ⟨by rfl, ?_⟩) (by assumption) ?_
            rotate_left
            · intro w' hSw; (try dsimp only at hSw); (try simp only [List.getElem_toArray, List.getElem_cons_zero, List.getElem_cons_succ]); go_simp; try with_reducible rfl
            (try simp only [List.getElem_toArray, List.getElem_cons_zero, List.getElem_cons_succ, Act.put, List.setIfInBounds_toArray, List.set_cons_zero, List.set_cons_succ])
            refine wpAnyH_take (i := 4) (v := ?_) rfl (by kernel_rfl) (by kernel_rfl) (by kernel_rfl) (fun _ _ _ h => h) (Or.inl ⟨by rfl, ?_⟩) (by assumption) ?_
            rotate_left
            · intro w' hSw; (try dsimp only at hSw); (try simp only [List.getElem_toArray, List.getElem_cons_zero, List.getElem_cons_succ]); go_simp; try with_reducible rfl
            (try simp only [List.getElem_toArray, List.getElem_cons_zero, List.getElem_cons_succ, Act.put, List.setIfInBounds_toArray, List.set_cons_zero, List.set_cons_succ])
            refine wpAnyH_take (i := 5) (v := ?_) rfl (by kernel_rfl) (by kernel_rfl) (by kernel_rfl) (fun _ _ _ h => h) (Or.inl ⟨by rfl, ?_⟩) (by assumption) ?_
            rotate_left
            · intro w' hSw; (try dsimp only at hSw); (try simp only [List.getElem_toArray, List.getElem_cons_zero, List.getElem_cons_succ]); go_simp; try with_reducible rfl
            (try simp only [List.getElem_toArray, List.getElem_cons_zero, List.getElem_cons_succ, Act.put, List.setIfInBounds_toArray, List.set_cons_zero, List.set_cons_succ])
            refine wpAnyH_take (i := 6) (v := ?_) rfl (by kernel_rfl) (by kernel_rfl) (by kernel_rfl) (fun _ _ _ h => h) (Or.inl ⟨by rfl, ?_⟩) (by assumption) ?_
            rotate_left
            · intro w' hSw; (try dsimp only at hSw); (try simp only [List.getElem_toArray, List.getElem_cons_zero, List.getElem_cons_succ]); go_simp; try with_reducible rfl
            (try simp only [List.getElem_toArray, List.getElem_cons_zero, List.getElem_cons_succ, Act.put, List.setIfInBounds_toArray, List.set_cons_zero, List.set_cons_succ])
            refine wpAnyH_take (i := 7) (v := ?_) rfl (by kernel_rfl) (by kernel_rfl) (by kernel_rfl) (fun _ _ _ h => h) (Or.inl ⟨by rfl, ?_⟩) (by assumption) ?_
            rotate_left
            · intro w' hSw; (try dsimp only at hSw); (try simp only [List.getElem_toArray, List.getElem_cons_zero, List.getElem_cons_succ]); go_simp; try with_reducible rfl
            (try simp only [List.getElem_toArray, List.getElem_cons_zero, List.getElem_cons_succ, Act.put, List.setIfInBounds_toArray, List.set_cons_zero, List.set_cons_succ])
            refine wpAnyH_ready (rs := [8]) (by kernel_rfl) (by simp) ?_
            refine AllReadyH.cons rfl (fun K hK => ?_) AllReadyH.nil
            go_simp
            (try go_split_ands)
            obtain ⟨w22, hw2⟩ : ∃ z, z = wd.alloc (.cells #[.int .i64 0, .int .i64 0, .slice none 0 0] 48) := ⟨_, rfl⟩
            rw [← hw2]
            have J22 : Hid (Below wd.heap.size wd w22) := Lib.hid (by rw [hw2]; exact below_alloc _ _)
            have HB2 : Hid (Has w22 wd.heap.size #[.int .i64 0, .int .i64 0, .slice none 0 0]) := Lib.hid (by rw [hw2]; exact Has.new _ _ _)
            clear hw2
            have X22 := Lib.hid (next0 hq0.out J22.out)
            refine hK.out _ _ (FX.out _ X22.out) (fun hHeld => ?_)
            clear hK K
            (try simp only [List.getElem_toArray, List.getElem_cons_zero, List.getElem_cons_succ, Act.put, List.setIfInBounds_toArray, List.set_cons_zero, List.set_cons_succ])
            refine wpAnyH_ready (rs := [9]) (by kernel_rfl) (by simp) ?_
            refine AllReadyH.cons rfl (fun K hK => ?_) AllReadyH.nil
            have f0 := HB2.out.cell 0
            have f1 := HB2.out.cell 1
            have f2 := HB2.out.cell 2
            have f3 := HB2.out.free 0
            have f4 := HB2.out.free 1
            have f5 := HB2.out.free 2
            go_simp
            (try go_split_ands)
            obtain ⟨w33, hw3⟩ : ∃ z, z = ((w22.setCell ⟨wd.heap.size, 0, none⟩ (.int .i64 gk)).setCell ⟨wd.heap.size, 1, none⟩ (.int .i64 gx)).setCell ⟨wd.heap.size, 2, none⟩ (.slice pv gl.length cv) := ⟨_, rfl⟩
            rw [← hw3]
            have HB3 : Hid (Has w33 wd.heap.size #[.int .i64 gk, .int .i64 gx, .slice pv gl.length cv]) := Lib.hid (by rw [hw3]; exact ((HB2.out.set 0 _).set 1 _).set 2 _)
            have X33 : Hid (Below wq.heap.size wq w33) := Lib.hid (by rw [hw3]; exact ((X22.out.setCell (p := ⟨wd.heap.size, 0, none⟩) hq0.out.size _).setCell (p := ⟨wd.heap.size, 1, none⟩) hq0.out.size _).setCell (p := ⟨wd.heap.size, 2, none⟩) hq0.out.size _)
            clear hw3 f0 f1 f2 f3 f4 f5
            refine hK.out _ _ (FX.out _ X33.out) (fun hHeld => ?_)
            clear hK K
            (try simp only [List.getElem_toArray, List.getElem_cons_zero, List.getElem_cons_succ, Act.put, List.setIfInBounds_toArray, List.set_cons_zero, List.set_cons_succ])
            refine wpAnyH_done (by kernel_rfl) ?_ _
            go_wp2_with fail
            go_meet
            exact ⟨wd.heap.size, rfl, HB3, X33⟩
          case rest =>
            generalize hwx : wc = wx at *
            clear hwx
            obtain ⟨g1, rfl, hH, hB⟩ := hcut
            have DX : Hid (Below w3.heap.size w3 wx) := Lib.hid (next0 hQ.out hB.out)
            have y1 := hH.out.cell 0
            have y2 := hH.out.cell 1
            clear q1 cx e0 e1 e2
            have S2 := Lib.hid (ON2.out j _ HXX.out)
            have S3 := Lib.hid (ON3.out j _ HXX.out)
            by_cases k2 : gk = 2
            · have i2 : (gk == 2) = true := by simp [k2]
              obtain ⟨ix, hix, hxb⟩ := ix_base OKG.out k2
              dsimp only at hix
              subst hix
              have h20 := (SMX.out trivial).bases
              have x0 : (0 : Int) ≤ (ix : Int) := by omega
              have x64 : (ix : Int) < 64 := by omega
              have OR := Lib.hid (or_shift (sn := sn) (ix := ix) hF.out.1 (by omega))
              have FB : Hid (sn ||| 2 ^ ix < 2 ^ 64 ∧ tn < 2 ^ 64) := Lib.hid ⟨or_fit hF.out.1 (by omega), hF.out.2⟩
              have R2 : Hid (sn ||| 2 ^ ix = orsK n 2 ((coneN n k).take (j + 1))) := Lib.hid (by rw [S2.out, ← hS.out, or_yes HG.out k2 rfl])
              have R3 : Hid (tn = orsK n 3 ((coneN n k).take (j + 1))) := Lib.hid (by rw [S3.out, ← hT.out, or_no HG.out (by dsimp only; omega)])
              clear k2
              go_wp2_with fail
              go_roundw
              case rel => first | exact ⟨j + 1, sn ||| 2 ^ ix, tn, by omega, by go_num, by rw [OR.out], rfl, FB, R2, R3, DX⟩ | ((repeat (apply Exists.intro)); refine ⟨?_, rfl⟩; exact ⟨j + 1, sn ||| 2 ^ ix, tn, by omega, by go_num, by rw [OR.out], rfl, FB, R2, R3, DX⟩)
              case measure => simp [intOf] <;> omega
            have i2 : (gk == 2) = false := by simp [k2]
            by_cases k3 : gk = 3
            · have i3 : (gk == 3) = true := by simp [k3]
              obtain ⟨ix, hix, hxb⟩ := ix_input OKG.out k3
              dsimp only at hix
              subst hix
              have h20 := (SMX.out trivial).inputs
              have x0 : (0 : Int) ≤ (ix : Int) := by omega
              have x64 : (ix : Int) < 64 := by omega
              have OR := Lib.hid (or_shift (sn := tn) (ix := ix) hF.out.2 (by omega))
              have FB : Hid (sn < 2 ^ 64 ∧ tn ||| 2 ^ ix < 2 ^ 64) := Lib.hid ⟨hF.out.1, or_fit hF.out.2 (by omega)⟩
              have R2 : Hid (sn = orsK n 2 ((coneN n k).take (j + 1))) := Lib.hid (by rw [S2.out, ← hS.out, or_no HG.out k2])
              have R3 : Hid (tn ||| 2 ^ ix = orsK n 3 ((coneN n k).take (j + 1))) := Lib.hid (by rw [S3.out, ← hT.out, or_yes HG.out k3 rfl])
              clear k3
              go_wp2_with fail
              go_roundw
              case rel => first | exact ⟨j + 1, sn, tn ||| 2 ^ ix, by omega, by go_num, rfl, by rw [OR.out], FB, R2, R3, DX⟩ | ((repeat (apply Exists.intro)); refine ⟨?_, rfl⟩; exact ⟨j + 1, sn, tn ||| 2 ^ ix, by omega, by go_num, rfl, by rw [OR.out], FB, R2, R3, DX⟩)
              case measure => simp [intOf] <;> omega
            have i3 : (gk == 3) = false := by simp [k3]
            have R2 : Hid (sn = orsK n 2 ((coneN n k).take (j + 1))) := Lib.hid (by rw [S2.out, ← hS.out, or_no HG.out k2])
            have R3 : Hid (tn = orsK n 3 ((coneN n k).take (j + 1))) := Lib.hid (by rw [S3.out, ← hT.out, or_no HG.out k3])
            clear k2 k3
            go_wp2_with fail
            go_roundw
            case rel => first | exact ⟨j + 1, sn, tn, by omega, by go_num, rfl, rfl, hF, R2, R3, DX⟩ | ((repeat (apply Exists.intro)); refine ⟨?_, rfl⟩; exact ⟨j + 1, sn, tn, by omega, by go_num, rfl, rfl, hF, R2, R3, DX⟩)
            case measure => simp [intOf] <;> omega
        · obtain rfl : j = lc := by omega
          have ES : Hid (sn = orsK n 2 (coneN n k)) := Lib.hid (by rw [hS.out, ← HLC.out, List.take_length])
          have ET : Hid (tn = orsK n 3 (coneN n k)) := Lib.hid (by rw [hT.out, ← HLC.out, List.take_length])
          have hb64 : n.bases.length ≤ 64 := by have := (SMX.out trivial).bases; omega
          have hi64 : n.inputs.length ≤ 64 := by have := (SMX.out trivial).inputs; omega
          have SAME := Lib.hid (apart_same (a := a) (b := b) (c := c) (d := d) OK.out hb64 hi64 hlt)
          rw [← ES.out, ← ET.out] at SAME
          have MA := Lib.hid (mix_eq (p := a) (q := c) (s := sn) HL.out.1 HL.out.2.2.1 hF.out.1)
          have MB := Lib.hid (mix_eq (p := b) (q := d) (s := tn) HL.out.2.1 HL.out.2.2.2 hF.out.2)
          have LM1 := Lib.hid (mix_lt (p := a) (q := c) (s := sn) HL.out.1 HL.out.2.2.1)
          have LM2 := Lib.hid (mix_lt (p := b) (q := d) (s := tn) HL.out.2.1 HL.out.2.2.2)
          generalize mixB a c sn = m1 at *
          generalize mixB b d tn = m2 at *
          obtain ⟨Wo, hWo⟩ : ∃ z, z = wq.alloc (.cells #[.int .u64 (m1 : Int), .int .u64 (m2 : Int)] 45) := ⟨_, rfl⟩
          have BO : Hid (Below wq.heap.size wq Wo) := Lib.hid (by rw [hWo]; exact below_alloc _ _)
          have HO : Hid (Has Wo wq.heap.size #[.int .u64 (m1 : Int), .int .u64 (m2 : Int)]) := Lib.hid (by rw [hWo]; exact Has.new _ _ _)
          have DO : Hid (Below Wb.heap.size Wb Wo) := Lib.hid (next0 DQ.out BO.out)
          obtain ⟨x1, x2⟩ := CL3.out wq DQ.out
          obtain ⟨q1, q2, q3, q4, q5, q6, q7, q8, q9, q10, q11, x3, x4⟩ := CL.out wq DQ.out
          have ma := MA.out
          have mb := MB.out
          have LA := Lib.hid (valsn_len (bitsL a n.bases.length) (bitsL b n.inputs.length) n)
          have LB := Lib.hid (valsn_len (bitsL m1 n.bases.length) (bitsL m2 n.inputs.length) n)
          clear hb64 hi64 ES ET MA MB hS hT CS CRG CMM ON2 ON3 IC HLC
          go_upto_region 17 with fail
          rw [← hWo]
          clear hWo ma mb x1 x2 x3 x4 q1 q2 q3 q4 q5 q6 q7 q8 q9 q10 q11
          have M1 := Lib.hid (fun w' => bits_any a n.bases.length (HL.out.1) w')
          have M2 := Lib.hid (fun w' => bits_any b n.inputs.length (HL.out.2.1) w')
          have CE := Lib.hid (fun w' (q : Below Wo.heap.size Wo w') vs vi (hs : RowE KN (· < w'.heap.size) w' (bitsL a n.bases.length) vs) (hi : RowE KN (· < w'.heap.size) w' (bitsL b n.inputs.length) vi) => CV.out w' (next0 DO.out q) _ _ vs vi hs hi)
          have HC := Lib.hid (fun w' (q : Below Wo.heap.size Wo w') => CL.out w' (next0 DO.out q))
          go_cut [14, 15] (fun s t wx => t = .int .i64 0 ∧ Hid (StB (valsN (bitsL a n.bases.length) (bitsL b n.inputs.length) n) wx s) ∧ Hid (Below Wo.heap.size Wo wx))
          case first =>
            have hq0 : Hid (Below Wo.heap.size Wo Wo.drew) := Lib.hid (Below.refl _ _).drew
            obtain ⟨x1, x2, x3, x4, x5, x6, x7, x8, x9, x10, x11, x12, x13⟩ := HC.out _ hq0.out
            go_region_held3 (fun w' => w'.cell? ⟨w.heap.size, 0, none⟩ = some (.slice gpt n.gates.length h.gc) ∧ w'.cell? ⟨w.heap.size, 1, none⟩ = some (.slice h.rp n.roles.length h.rc) ∧ w'.cell? ⟨w.heap.size, 2, none⟩ = some (.slice h.bp n.bases.length h.bc) ∧ w'.cell? ⟨w.heap.size, 3, none⟩ = some (.slice h.ip n.inputs.length h.ic) ∧ w'.cell? ⟨w.heap.size, 4, none⟩ = some (.slice h.ap n.initial.length h.ac) ∧ w'.cell? ⟨w.heap.size, 5, none⟩ = some (.slice h.np n.next.length h.nc) ∧ w'.cell? ⟨w.heap.size, 6, none⟩ = some (.slice h.lp n.legal.length h.lc) ∧ w'.cell? ⟨w.heap.size, 7, none⟩ = some (.slice h.op n.goals.length h.oc) ∧ w'.cell? ⟨w.heap.size, 8, none⟩ = some (.slice h.sp n.sees.length h.sc) ∧ w'.cell? ⟨w.heap.size, 9, none⟩ = some (.int .i64 n.last) ∧ w'.cell? ⟨w.heap.size, 10, none⟩ = some (.bool n.hid) ∧ w'.cell? ⟨w.heap.size + 1, 0, none⟩ = some (.int .u64 (a : Int)) ∧ w'.cell? ⟨w.heap.size + 1, 1, none⟩ = some (.int .u64 (b : Int)))
              (first | (with_reducible assumption) | (with_reducible exact ⟨‹_›, ‹_›, ‹_›, ‹_›, ‹_›, ‹_›, ‹_›, ‹_›, ‹_›, ‹_›, ‹_›, ‹_›, ‹_›⟩) | (with_reducible refine HC.out _ ?_; repeat (first | (with_reducible exact Hid.out (by assumption)) | (with_reducible exact Below.refl _ _) | (with_reducible refine Below.drew ?_))))
              (first
                | (go_at_call 20; (try go_split_ands); (with_reducible refine (M1.out _).mono ?_); rintro e wa ⟨ua, rfl, ra, qa⟩; have RA := Lib.hid (StN.of ra); obtain ⟨pa, ca, rfl⟩ := ra.form; have QA := Lib.hid qa; (have QG : Hid (Below Wo.heap.size Wo wa) := Lib.hid (by (refine next0 ?_ qa; repeat (first | (with_reducible exact Hid.out (by assumption)) | (with_reducible exact Below.refl _ _) | (with_reducible refine Below.drew ?_))))); clear ra qa; obtain ⟨x1, x2, x3, x4, x5, x6, x7, x8, x9, x10, x11, x12, x13⟩ := HC.out _ QG.out)
                | (go_at_call 20; (try go_split_ands); (with_reducible refine (M2.out _).mono ?_); rintro e wb ⟨ub, rfl, rb, qb⟩; have RB := Lib.hid (StN.of rb); obtain ⟨pb, cb, rfl⟩ := rb.form; have QB := Lib.hid qb; (have QH : Hid (Below Wo.heap.size Wo wb) := Lib.hid (by (refine next0 ?_ qb; repeat (first | (with_reducible exact Hid.out (by assumption)) | (with_reducible exact Below.refl _ _) | (with_reducible refine Below.drew ?_))))); clear rb qb; obtain ⟨x1, x2, x3, x4, x5, x6, x7, x8, x9, x10, x11, x12, x13⟩ := HC.out _ QH.out)
                | (go_at_call 13; (try go_split_ands); refine (CE.out _ (by repeat (first | (with_reducible exact Hid.out (by assumption)) | (with_reducible exact Below.refl _ _) | (with_reducible refine Below.drew ?_))) _ _ (RA.out _ (by (repeat (with_reducible refine Below.drew ?_)); first | (with_reducible exact Below.refl _ _) | (first | (exact QB.out) | (refine undrew ?_; (first | (exact QB.out) | (refine undrew ?_; (first | (exact QB.out) | (refine undrew ?_; (first | (exact QB.out) | (refine undrew ?_; (first | (exact QB.out) | (refine undrew ?_; (first | (exact QB.out) | (refine undrew ?_; (first | (exact QB.out) | (refine undrew ?_; (first | (exact QB.out) | (refine undrew ?_; (first | (exact QB.out) | (refine undrew ?_; (first | (exact QB.out) | (refine undrew ?_; (first | (exact QB.out) | (refine undrew ?_; (first | (exact QB.out) | (refine undrew ?_; (first | (exact QB.out) | (refine undrew ?_; (first | (exact QB.out) | (refine undrew ?_; (first | (exact QB.out)))))))))))))))))))))))))))))))) (RB.out _ (by (repeat (with_reducible refine Below.drew ?_)); first | (with_reducible exact Below.refl _ _) | (first | (exact QA.out) | (refine undrew ?_; (first | (exact QA.out) | (refine undrew ?_; (first | (exact QA.out) | (refine undrew ?_; (first | (exact QA.out) | (refine undrew ?_; (first | (exact QA.out) | (refine undrew ?_; (first | (exact QA.out) | (refine undrew ?_; (first | (exact QA.out) | (refine undrew ?_; (first | (exact QA.out) | (refine undrew ?_; (first | (exact QA.out) | (refine undrew ?_; (first | (exact QA.out) | (refine undrew ?_; (first | (exact QA.out) | (refine undrew ?_; (first | (exact QA.out) | (refine undrew ?_; (first | (exact QA.out) | (refine undrew ?_; (first | (exact QA.out) | (refine undrew ?_; (first | (exact QA.out))))))))))))))))))))))))))))))))).mono ?_; rintro e wv ⟨uv, rfl, rv, qv⟩; have RV := Lib.hid (StB.of rv); (have QI : Hid (Below Wo.heap.size Wo wv) := Lib.hid (by (refine next0 ?_ qv; repeat (first | (with_reducible exact Hid.out (by assumption)) | (with_reducible exact Below.refl _ _) | (with_reducible refine Below.drew ?_))))); clear rv qv; obtain ⟨x1, x2, x3, x4, x5, x6, x7, x8, x9, x10, x11, x12, x13⟩ := HC.out _ QI.out))
            all_goals
              go_wp2_with fail
              go_meet
              refine ⟨rfl, ?_, ?_⟩
              · first | (with_reducible exact RV) | exact Lib.hid (StB.step RV.out (by (repeat (with_reducible refine Below.drew ?_)); (with_reducible exact Below.refl _ _)))
              · first | (with_reducible exact QI) | exact Lib.hid (by repeat (first | (with_reducible exact QI.out) | (refine Below.drew ?_)))
          case rest =>
            generalize hw17 : wc = w17 at *
            clear hw17
            obtain ⟨rfl, G7, J7⟩ := hcut
            have D7 : Hid (Below Wb.heap.size Wb w17) := Lib.hid (next0 DO.out J7.out)
            obtain ⟨p7, c7, rfl⟩ := (G7.out _ (Below.refl _ _)).form
            clear M1 M2 CE HC
            have CLo : Hid (∀ w', Below Wo.heap.size Wo w' → w'.cell? ⟨w.heap.size, 0, none⟩ = some (.slice gpt n.gates.length h.gc) ∧ w'.cell? ⟨w.heap.size, 1, none⟩ = some (.slice h.rp n.roles.length h.rc) ∧ w'.cell? ⟨w.heap.size, 2, none⟩ = some (.slice h.bp n.bases.length h.bc) ∧ w'.cell? ⟨w.heap.size, 3, none⟩ = some (.slice h.ip n.inputs.length h.ic) ∧ w'.cell? ⟨w.heap.size, 4, none⟩ = some (.slice h.ap n.initial.length h.ac) ∧ w'.cell? ⟨w.heap.size, 5, none⟩ = some (.slice h.np n.next.length h.nc) ∧ w'.cell? ⟨w.heap.size, 6, none⟩ = some (.slice h.lp n.legal.length h.lc) ∧ w'.cell? ⟨w.heap.size, 7, none⟩ = some (.slice h.op n.goals.length h.oc) ∧ w'.cell? ⟨w.heap.size, 8, none⟩ = some (.slice h.sp n.sees.length h.sc) ∧ w'.cell? ⟨w.heap.size, 9, none⟩ = some (.int .i64 n.last) ∧ w'.cell? ⟨w.heap.size, 10, none⟩ = some (.bool n.hid) ∧ w'.cell? ⟨wq.heap.size, 0, none⟩ = some (.int .u64 (m1 : Int)) ∧ w'.cell? ⟨wq.heap.size, 1, none⟩ = some (.int .u64 (m2 : Int))) := Lib.hid (fun w' q => by
              obtain ⟨x1, x2, x3, x4, x5, x6, x7, x8, x9, x10, x11, _, _⟩ := CL.out w' (next0 DO.out q)
              exact ⟨x1, x2, x3, x4, x5, x6, x7, x8, x9, x10, x11, (HO.out.step0 q).cell 0, (HO.out.step0 q).cell 1⟩)
            go_upto_region 18 with fail
            have M1 := Lib.hid (fun w' => bits_any m1 n.bases.length (LM1.out) w')
            have M2 := Lib.hid (fun w' => bits_any m2 n.inputs.length (LM2.out) w')
            have CE := Lib.hid (fun w' (q : Below w17.heap.size w17 w') vs vi (hs : RowE KN (· < w'.heap.size) w' (bitsL m1 n.bases.length) vs) (hi : RowE KN (· < w'.heap.size) w' (bitsL m2 n.inputs.length) vi) => CV.out w' (next0 D7.out q) _ _ vs vi hs hi)
            have HC := Lib.hid (fun w' (q : Below w17.heap.size w17 w') => CLo.out w' (next0 J7.out q))
            go_cut [16, 17] (fun s t wx => t = .int .i64 0 ∧ Hid (StB (valsN (bitsL m1 n.bases.length) (bitsL m2 n.inputs.length) n) wx s) ∧ Hid (Below w17.heap.size w17 wx))
            case first =>
              have hq0 : Hid (Below w17.heap.size w17 w17.drew) := Lib.hid (Below.refl _ _).drew
              obtain ⟨x1, x2, x3, x4, x5, x6, x7, x8, x9, x10, x11, x12, x13⟩ := HC.out _ hq0.out
              go_region_held3 (fun w' => w'.cell? ⟨w.heap.size, 0, none⟩ = some (.slice gpt n.gates.length h.gc) ∧ w'.cell? ⟨w.heap.size, 1, none⟩ = some (.slice h.rp n.roles.length h.rc) ∧ w'.cell? ⟨w.heap.size, 2, none⟩ = some (.slice h.bp n.bases.length h.bc) ∧ w'.cell? ⟨w.heap.size, 3, none⟩ = some (.slice h.ip n.inputs.length h.ic) ∧ w'.cell? ⟨w.heap.size, 4, none⟩ = some (.slice h.ap n.initial.length h.ac) ∧ w'.cell? ⟨w.heap.size, 5, none⟩ = some (.slice h.np n.next.length h.nc) ∧ w'.cell? ⟨w.heap.size, 6, none⟩ = some (.slice h.lp n.legal.length h.lc) ∧ w'.cell? ⟨w.heap.size, 7, none⟩ = some (.slice h.op n.goals.length h.oc) ∧ w'.cell? ⟨w.heap.size, 8, none⟩ = some (.slice h.sp n.sees.length h.sc) ∧ w'.cell? ⟨w.heap.size, 9, none⟩ = some (.int .i64 n.last) ∧ w'.cell? ⟨w.heap.size, 10, none⟩ = some (.bool n.hid) ∧ w'.cell? ⟨wq.heap.size, 0, none⟩ = some (.int .u64 (m1 : Int)) ∧ w'.cell? ⟨wq.heap.size, 1, none⟩ = some (.int .u64 (m2 : Int)))
                (first | (with_reducible assumption) | (with_reducible exact ⟨‹_›, ‹_›, ‹_›, ‹_›, ‹_›, ‹_›, ‹_›, ‹_›, ‹_›, ‹_›, ‹_›, ‹_›, ‹_›⟩) | (with_reducible refine HC.out _ ?_; repeat (first | (with_reducible exact Hid.out (by assumption)) | (with_reducible exact Below.refl _ _) | (with_reducible refine Below.drew ?_))))
                (first
                  | (go_at_call 20; (try go_split_ands); (with_reducible refine (M1.out _).mono ?_); rintro e wa ⟨ua, rfl, ra, qa⟩; have RA := Lib.hid (StN.of ra); obtain ⟨pa, ca, rfl⟩ := ra.form; have QA := Lib.hid qa; (have QG : Hid (Below w17.heap.size w17 wa) := Lib.hid (by (refine next0 ?_ qa; repeat (first | (with_reducible exact Hid.out (by assumption)) | (with_reducible exact Below.refl _ _) | (with_reducible refine Below.drew ?_))))); clear ra qa; obtain ⟨x1, x2, x3, x4, x5, x6, x7, x8, x9, x10, x11, x12, x13⟩ := HC.out _ QG.out)
                  | (go_at_call 20; (try go_split_ands); (with_reducible refine (M2.out _).mono ?_); rintro e wb ⟨ub, rfl, rb, qb⟩; have RB := Lib.hid (StN.of rb); obtain ⟨pb, cb, rfl⟩ := rb.form; have QB := Lib.hid qb; (have QH : Hid (Below w17.heap.size w17 wb) := Lib.hid (by (refine next0 ?_ qb; repeat (first | (with_reducible exact Hid.out (by assumption)) | (with_reducible exact Below.refl _ _) | (with_reducible refine Below.drew ?_))))); clear rb qb; obtain ⟨x1, x2, x3, x4, x5, x6, x7, x8, x9, x10, x11, x12, x13⟩ := HC.out _ QH.out)
                  | (go_at_call 13; (try go_split_ands); refine (CE.out _ (by repeat (first | (with_reducible exact Hid.out (by assumption)) | (with_reducible exact Below.refl _ _) | (with_reducible refine Below.drew ?_))) _ _ (RA.out _ (by (repeat (with_reducible refine Below.drew ?_)); first | (with_reducible exact Below.refl _ _) | (first | (exact QB.out) | (refine undrew ?_; (first | (exact QB.out) | (refine undrew ?_; (first | (exact QB.out) | (refine undrew ?_; (first | (exact QB.out) | (refine undrew ?_; (first | (exact QB.out) | (refine undrew ?_; (first | (exact QB.out) | (refine undrew ?_; (first | (exact QB.out) | (refine undrew ?_; (first | (exact QB.out) | (refine undrew ?_; (first | (exact QB.out) | (refine undrew ?_; (first | (exact QB.out) | (refine undrew ?_; (first | (exact QB.out) | (refine undrew ?_; (first | (exact QB.out) | (refine undrew ?_; (first | (exact QB.out) | (refine undrew ?_; (first | (exact QB.out) | (refine undrew ?_; (first | (exact QB.out)))))))))))))))))))))))))))))))) (RB.out _ (by (repeat (with_reducible refine Below.drew ?_)); first | (with_reducible exact Below.refl _ _) | (first | (exact QA.out) | (refine undrew ?_; (first | (exact QA.out) | (refine undrew ?_; (first | (exact QA.out) | (refine undrew ?_; (first | (exact QA.out) | (refine undrew ?_; (first | (exact QA.out) | (refine undrew ?_; (first | (exact QA.out) | (refine undrew ?_; (first | (exact QA.out) | (refine undrew ?_; (first | (exact QA.out) | (refine undrew ?_; (first | (exact QA.out) | (refine undrew ?_; (first | (exact QA.out) | (refine undrew ?_; (first | (exact QA.out) | (refine undrew ?_; (first | (exact QA.out) | (refine undrew ?_; (first | (exact QA.out) | (refine undrew ?_; (first | (exact QA.out) | (refine undrew ?_; (first | (exact QA.out))))))))))))))))))))))))))))))))).mono ?_; rintro e wv ⟨uv, rfl, rv, qv⟩; have RV := Lib.hid (StB.of rv); (have QI : Hid (Below w17.heap.size w17 wv) := Lib.hid (by (refine next0 ?_ qv; repeat (first | (with_reducible exact Hid.out (by assumption)) | (with_reducible exact Below.refl _ _) | (with_reducible refine Below.drew ?_))))); clear rv qv; obtain ⟨x1, x2, x3, x4, x5, x6, x7, x8, x9, x10, x11, x12, x13⟩ := HC.out _ QI.out))
              all_goals
                go_wp2_with fail
                go_meet
                refine ⟨rfl, ?_, ?_⟩
                · first | (with_reducible exact RV) | exact Lib.hid (StB.step RV.out (by (repeat (with_reducible refine Below.drew ?_)); (with_reducible exact Below.refl _ _)))
                · first | (with_reducible exact QI) | exact Lib.hid (by repeat (first | (with_reducible exact QI.out) | (refine Below.drew ?_)))
            case rest =>
              generalize hw18 : wc = w18 at *
              clear hw18
              obtain ⟨rfl, G8, J8⟩ := hcut
              have D8 : Hid (Below Wb.heap.size Wb w18) := Lib.hid (next0 D7.out J8.out)
              obtain ⟨p8, c8, rfl⟩ := (G8.out _ (Below.refl _ _)).form
              clear M1 M2 CE HC CLo
              have IA := Lib.hid (readb (G7.out w18 J8.out) (fun b hb => hb))
              have IB := Lib.hid (readb (G8.out w18 (Below.refl _ _)) (fun b hb => hb))
              generalize valsN (bitsL a n.bases.length) (bitsL b n.inputs.length) n = V1 at *
              generalize valsN (bitsL m1 n.bases.length) (bitsL m2 n.inputs.length) n = V2 at *
              obtain ⟨xa, hxa⟩ : ∃ x, V1[k]? = some x := ⟨V1[k]'(by rw [LA.out]; exact hlt), by simp⟩
              obtain ⟨xb, hxb⟩ : ∃ x, V2[k]? = some x := ⟨V2[k]'(by rw [LB.out]; exact hlt), by simp⟩
              obtain ⟨g8, o8, rfl, c1⟩ := IA.out k xa hxa w18 (Below.refl _ _)
              obtain ⟨g9, o9, rfl, c2⟩ := IB.out k xb hxb w18 (Below.refl _ _)
              have SA := SAME.out
              rw [show vAt V1 (k : Int) = xa from v_get (by rw [Int.toNat_natCast]; exact hxa), show vAt V2 (k : Int) = xb from v_get (by rw [Int.toNat_natCast]; exact hxb)] at SA
              subst SA
              generalize hla : V1.length = la at *
              generalize hlb : V2.length = lb at *
              clear hla hlb
              have k1 : ¬ (la : Int) ≤ (k : Int) := by have := LA.out; omega
              have k2 : ¬ (lb : Int) ≤ (k : Int) := by have := LB.out; omega
              have k3 : (k : Int) < la := by omega
              have k4 : (k : Int) < lb := by omega
              have k5 : decide (la ≤ k) = false := decide_eq_false (by omega)
              have k6 : decide (lb ≤ k) = false := decide_eq_false (by omega)
              have k7 : ¬ la ≤ k := by omega
              have k8 : ¬ lb ≤ k := by omega
              clear hxa hxb SAME LA LB
              go_upto_region 19 with fail
              cases xa
              all_goals
                go_quiet (fail)
                go_wp2_with fail
                go_roundw
                case rel => first | exact ⟨k + 1, by omega, by go_num, Lib.hid (below_drewN D8.out _)⟩ | ((repeat (apply Exists.intro)); refine ⟨?_, rfl⟩; exact ⟨k + 1, by omega, by go_num, Lib.hid (below_drewN D8.out _)⟩)
                case measure => simp [intOf] <;> omega
    · obtain rfl : k = n.gates.length := by omega
      have CA := Lib.hid (alive_any wo)
      go_wp2_with fail
      refine CA.out.mono ?_
      rintro e w9 ⟨rfl, g9⟩
      have DF := Lib.hid (KW.out _ (next0 hD.out g9))
      clear g9 CA
      go_wp2_with fail
      go_ret
      exact ⟨rfl, DF.out⟩
end NetE3
end Go.Proofs.Ytkfeliogglnngaa
