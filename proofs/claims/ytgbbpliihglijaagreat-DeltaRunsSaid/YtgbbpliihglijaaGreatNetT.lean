/- The reference's gate: the error of a gate. No conditions. Made by gnT.py. -/
import Derived.Test.YtgbbpliihglijaaGreatGBB
namespace Go.Proofs.YtgbbpliihglijaaGreat
open Go Go.RowKit
namespace NetT
open Kit LexM TermM TermI NetM NetN NetK NetA NetB NetC
set_option maxRecDepth 100000 in
set_option maxHeartbeats 6400000 in
theorem rgate_any (n : Nt) (h : Nh) (i : Nat) (g : Gt) (B : Nat) (w : World) (hB : B ≤ w.heap.size) (k : NetIn (· < B) w n h) (hg : n.gates[i]? = some g) :
    Calls Tryz.prog 67 #[.agg #[.slice h.gp n.gates.length h.gc, .slice h.rp n.roles.length h.rc, .slice h.bp n.bases.length h.bc, .slice h.ip n.inputs.length h.ic, .slice h.ap n.initial.length h.ac, .slice h.np n.next.length h.nc, .slice h.lp n.legal.length h.lc, .slice h.op n.goals.length h.oc, .slice h.sp n.sees.length h.sc, .int .i64 n.last, .bool n.hid], .int .i64 i] w fun e w' => e = .returned (.int .i64 (gateE n i g)) ∧ Below w.heap.size w w' := by
  obtain ⟨gk, gx, gl⟩ := g
  obtain ⟨v, b, o, egp, hb, hin, hc⟩ := k.gates.at hg
  obtain ⟨p, c, ev⟩ : ∃ p c, v = .slice p gl.length c := hin.1.form
  subst ev
  have EGP := Lib.hid egp
  clear egp
  have hi := (List.getElem?_eq_some_iff.1 hg).1
  have hcap := k.gates.cap
  have hmc : gl.length ≤ maxLen := by obtain ⟨_, h1, h2⟩ := hin.1.cap; omega
  unfold maxLen at hmc
  have c0 : w.cell? ⟨b, o + i * 3, none⟩ = some (.int .i64 gk) := hc 0 _ rfl
  have c1 : w.cell? ⟨b, o + i * 3 + 1, none⟩ = some (.int .i64 gx) := hc 1 _ rfl
  have c2 : w.cell? ⟨b, o + i * 3 + 2, none⟩ = some (.slice p gl.length c) := hc 2 _ rfl
  have hbw : b < w.heap.size := by have : b < B := hb; omega
  obtain ⟨W1, hW1⟩ : ∃ z, z = w.alloc (.cells #[.slice h.gp n.gates.length h.gc, .slice h.rp n.roles.length h.rc, .slice h.bp n.bases.length h.bc, .slice h.ip n.inputs.length h.ic, .slice h.ap n.initial.length h.ac, .slice h.np n.next.length h.nc, .slice h.lp n.legal.length h.lc, .slice h.op n.goals.length h.oc, .slice h.sp n.sees.length h.sc, .int .i64 n.last, .bool n.hid] 28) := ⟨_, rfl⟩
  obtain ⟨W2, hW2⟩ : ∃ z, z = W1.alloc (.cells #[.int .i64 gk, .int .i64 gx, .slice p gl.length c] 55) := ⟨_, rfl⟩
  have K1 : Hid (Below w.heap.size w W1) := Lib.hid (by rw [hW1]; exact below_alloc _ _)
  have hz1 : W1.heap.size = w.heap.size + 1 := by rw [hW1]; simp
  have K12 : Hid (Below W1.heap.size W1 W2) := Lib.hid (by rw [hW2]; exact below_alloc _ _)
  have K2 := Lib.hid (next0 K1.out K12.out)
  have hz2 : W2.heap.size = w.heap.size + 2 := by rw [hW2, World.size_alloc, hz1]
  have H1 : Hid (Has W1 w.heap.size (netC n h)) := Lib.hid (by rw [hW1]; exact Has.new _ _ _)
  have H2 : Hid (Has W2 (w.heap.size + 1) #[.int .i64 gk, .int .i64 gx, .slice p gl.length c]) := Lib.hid (by rw [hW2, ← hz1]; exact Has.new _ _ _)
  have N2 := Lib.hid (H1.out.step0 K12.out)
  have d0 := (K1.out.cell (p := ⟨b, o + i * 3, none⟩) hbw).trans c0
  have d1 := (K1.out.cell (p := ⟨b, o + i * 3 + 1, none⟩) hbw).trans c1
  have d2 := (K1.out.cell (p := ⟨b, o + i * 3 + 2, none⟩) hbw).trans c2
  have ik : (i : Int) < n.gates.length := by omega
  have i0 : (0 : Int) ≤ (i : Int) := by omega
  have hzz : w.heap.size ≤ W2.heap.size := by omega
  have KW := Lib.hid (fun w' (q : Below W2.heap.size W2 w') => show Below w.heap.size w w' from K2.out.trans (q.mono hzz))
  have IR : Hid (∀ j x, gl[j]? = some x → ∀ w', Below W2.heap.size W2 w' → ∃ g o, p = some ⟨g, o, none⟩ ∧ w'.cell? ⟨g, o + j, none⟩ = some (.int .i64 x)) := Lib.hid (fun j x hx w' q => by
    obtain ⟨g, o, e1, e2, _, e4⟩ := hin.1.at hx
    refine ⟨g, o, e1, ((KW.out w' q).cell (p := ⟨g, _, none⟩) (show g < w.heap.size by have : g < B := e2; omega)).trans ?_⟩
    have := e4 0 _ rfl
    simpa [KN] using this)
  have G20 : Hid (inB gk 7 = false → gateE n i (gk, gx, gl) = 20) := Lib.hid (fun e => by unfold gateE; rw [if_pos e])
  have G12 : Hid (inB gk 7 = true → inB gx (mostIx n gk) = false → gateE n i (gk, gx, gl) = 12) := Lib.hid (fun e e2 => by unfold gateE; rw [if_neg (by rw [e]; decide), if_pos e2])
  have G13 : Hid (inB gk 7 = true → inB gx (mostIx n gk) = true → readsB gk gl.length = false → gateE n i (gk, gx, gl) = 13) := Lib.hid (fun e e2 e3 => by unfold gateE; rw [if_neg (by rw [e]; decide), if_neg (by rw [e2]; decide), if_pos e3])
  have G25 : Hid (inB gk 7 = true → inB gx (mostIx n gk) = true → readsB gk gl.length = true → numsB gl i = false → gateE n i (gk, gx, gl) = 25) := Lib.hid (fun e e2 e3 e4 => by unfold gateE; rw [if_neg (by rw [e]; decide), if_neg (by rw [e2]; decide), if_neg (by rw [e3]; decide), if_pos e4])
  have G0 : Hid (inB gk 7 = true → inB gx (mostIx n gk) = true → readsB gk gl.length = true → numsB gl i = true → gateE n i (gk, gx, gl) = 0) := Lib.hid (fun e e2 e3 e4 => by unfold gateE; rw [if_neg (by rw [e]; decide), if_neg (by rw [e2]; decide), if_neg (by rw [e3]; decide), if_neg (by rw [e4]; decide)])
  have NI : Hid (inB gk 7 = (decide (0 ≤ gk) && decide (gk < 7))) := Lib.hid rfl
  have NX : Hid (inB gx (mostIx n gk) = (decide (0 ≤ gx) && decide (gx < mostIx n gk))) := Lib.hid rfl
  have NT : Hid ((∀ j, j < gl.length → numAt gl i j = true) → numsB gl i = true) := Lib.hid (fun h => alln_true.2 h)
  have NF : Hid (∀ j, j < gl.length → numAt gl i j = false → numsB gl i = false) := Lib.hid (fun j hj h => alln_false hj h)
  have M2 := Lib.hid (fun (e : gk = 2) => show mostIx n gk = n.bases.length by unfold mostIx; rw [if_pos e])
  have M3 := Lib.hid (fun (e : gk ≠ 2) (e3 : gk = 3) => show mostIx n gk = n.inputs.length by unfold mostIx; rw [if_neg e, if_pos e3])
  have M4 := Lib.hid (fun (e : gk ≠ 2) (e3 : gk ≠ 3) => show mostIx n gk = 1 by unfold mostIx; rw [if_neg e, if_neg e3])
  have R6 := Lib.hid (fun (e : gk = 6) => show readsB gk gl.length = decide (gl.length = 1) by unfold readsB; rw [if_pos e])
  have R5 := Lib.hid (fun (e : gk ≠ 6) (e5 : gk = 4 ∨ gk = 5) => show readsB gk gl.length = decide (1 ≤ gl.length) by unfold readsB; rw [if_neg e, if_pos e5])
  have R4 := Lib.hid (fun (e : gk ≠ 6) (e5 : ¬ (gk = 4 ∨ gk = 5)) => show readsB gk gl.length = decide (gl.length = 0) by unfold readsB; rw [if_neg e, if_neg e5])
  clear hc hin hg k hi hcap c0 c1 c2 hz2
  generalize gateE n i (gk, gx, gl) = R at *
  generalize hml : gl.length = m at *
  have HML := Lib.hid hml
  clear hml
  generalize numsB gl i = nb at *
  generalize readsB gk m = rb at *
  generalize inB gx (mostIx n gk) = ib at *
  generalize mostIx n gk = mx at *
  obtain ⟨q1, q2, q3, q4, q5, q6, q7, q8, q9, q10, q11⟩ := hasN H1.out
  go_enter Tryz.func67, Tryz.ntmps67
  go_upto_region 1 with fail
  rw [← hW1]
  clear hW1
  have egp := EGP.out
  go_upto_region 2 with fail
  rw [← hW2]
  clear hW2 d0 d1 d2 egp H1 q1 q2 q3 q4 q5 q6 q7 q8 q9 q10 q11
  obtain ⟨q1, q2, q3, q4, q5, q6, q7, q8, q9, q10, q11⟩ := hasN N2.out
  have x1 := H2.out.cell 0
  have x2 := H2.out.cell 1
  have x3 := H2.out.cell 2
  by_cases h0 : gk < 0
  · have e0 := Lib.hid (G20.out (by rw [NI.out, decide_eq_false (by omega)]; rfl))
    clear G20 G12 G13 G25 G0 NI
    go_wp2_with fail
    go_ret
    exact ⟨by rw [e0.out]; rfl, K2.out⟩
  by_cases h7 : 6 < gk
  · have e0 := Lib.hid (G20.out (by rw [NI.out, decide_eq_false (show ¬ gk < 7 by omega), Bool.and_false]))
    clear G20 G12 G13 G25 G0 NI
    go_wp2_with fail
    go_ret
    exact ⟨by rw [e0.out]; rfl, K2.out⟩
  have ek : inB gk 7 = true := by rw [NI.out, decide_eq_true (by omega), decide_eq_true (by omega)]; rfl
  have G12a := Lib.hid (G12.out ek)
  have G13a := Lib.hid (G13.out ek)
  have G25a := Lib.hid (G25.out ek)
  have G0a := Lib.hid (G0.out ek)
  clear ek G20 G12 G13 G25 G0 NI
  go_upto_region 4 with fail
  go_upto_if 24 with fail
  go_cut [6] (fun s wx => ∃ m1 : Int, s = .int .i64 m1 ∧ Hid (gk = 2 → m1 = mx) ∧ Hid (gk ≠ 2 → m1 = 1) ∧ W2 = wx)
  case first =>
    by_cases h2 : gk = 2
    · have M2a := Lib.hid (M2.out h2)
      have i2 : (gk == 2) = true := by simp [h2]
      have hh := Lib.hid h2
      clear h2
      go_wp2_with fail
      go_meet
      exact ⟨_, rfl, Lib.hid (fun _ => M2a.out.symm), Lib.hid (fun e => absurd hh.out e), rfl⟩
    · have i2 : (gk == 2) = false := by simp [h2]
      have hh := Lib.hid h2
      clear h2
      go_wp2_with fail
      go_meet
      exact ⟨_, rfl, Lib.hid (fun e => absurd e hh.out), Lib.hid (fun _ => rfl), rfl⟩
  case rest =>
    obtain ⟨m1, rfl, hm1, hm2, rfl⟩ := hcut
    go_upto_if 30 with fail
    go_cut [6] (fun s wx => s = .int .i64 mx ∧ W2 = wx)
    case first =>
      by_cases h3 : gk = 3
      · have M3a := Lib.hid (M3.out (by omega) h3)
        have i3 : (gk == 3) = true := by simp [h3]
        clear h3
        go_wp2_with fail
        go_meet
        exact ⟨by rw [M3a.out], by first | rfl | trivial⟩
      · have hmm : Hid (m1 = mx) := Lib.hid (by
          by_cases h2 : gk = 2
          · exact hm1.out h2
          · rw [hm2.out h2, M4.out h2 h3])
        have i3 : (gk == 3) = false := by simp [h3]
        clear h3
        go_wp2_with fail
        go_meet
        exact ⟨by rw [hmm.out], by first | rfl | trivial⟩
    case rest =>
      obtain ⟨rfl, rfl⟩ := hcut
      clear hm1 hm2 M2 M3 M4
      by_cases hx0 : gx < 0
      · have e0 := Lib.hid (G12a.out (by rw [NX.out, decide_eq_false (by omega)]; rfl))
        clear NX
        go_wp2_with fail
        go_ret
        exact ⟨by rw [e0.out]; rfl, K2.out⟩
      by_cases hx1 : mx ≤ gx
      · have e0 := Lib.hid (G12a.out (by rw [NX.out, decide_eq_false (show ¬ gx < mx by omega), Bool.and_false]))
        clear NX
        go_wp2_with fail
        go_ret
        exact ⟨by rw [e0.out]; rfl, K2.out⟩
      have eb : ib = true := by rw [NX.out, decide_eq_true (by omega), decide_eq_true (by omega)]; rfl
      have G13b := Lib.hid (G13a.out eb)
      have G25b := Lib.hid (G25a.out eb)
      have G0b := Lib.hid (G0a.out eb)
      clear NX eb G12a G13a G25a G0a
      go_upto_region 12 with fail
      go_cut [75] (fun s wx => s = .bool (!rb) ∧ W2 = wx)
      case first =>
        by_cases h6 : gk = 6
        · have RR := Lib.hid (R6.out h6)
          clear R4 R5 R6
          subst h6
          by_cases hm : m = 1
          · have e0 : Hid (rb = true) := Lib.hid (by rw [RR.out, decide_eq_true hm])
            subst hm
            clear RR
            go_wp2_with fail
            go_meet
            exact ⟨by rw [e0.out]; rfl, by first | rfl | trivial⟩
          · have e0 : Hid (rb = false) := Lib.hid (by rw [RR.out, decide_eq_false hm])
            have i1 : ((m : Int) != 1) = true := by simp; omega
            clear RR hm
            go_wp2_with fail
            go_meet
            exact ⟨by rw [e0.out]; rfl, by first | rfl | trivial⟩
        by_cases h45 : gk = 4 ∨ gk = 5
        · have RR := Lib.hid (R5.out h6 h45)
          clear R4 R5 R6
          have i6 : (gk == 6) = false := by simp [h6]
          have i3 : ¬ gk ≤ 3 := by omega
          by_cases hm : 1 ≤ m
          · have e0 : Hid (rb = true) := Lib.hid (by rw [RR.out, decide_eq_true hm])
            have i1 : ¬ (m : Int) < 1 := by omega
            clear RR
            rcases h45 with rfl | rfl
            · go_wp2_with fail
              go_meet
              exact ⟨by rw [e0.out]; rfl, by first | rfl | trivial⟩
            · go_wp2_with fail
              go_meet
              exact ⟨by rw [e0.out]; rfl, by first | rfl | trivial⟩
          · have e0 : Hid (rb = false) := Lib.hid (by rw [RR.out, decide_eq_false hm])
            have i1 : (m : Int) < 1 := by omega
            clear RR
            rcases h45 with rfl | rfl
            · go_wp2_with fail
              go_meet
              exact ⟨by rw [e0.out]; rfl, by first | rfl | trivial⟩
            · go_wp2_with fail
              go_meet
              exact ⟨by rw [e0.out]; rfl, by first | rfl | trivial⟩
        have RR := Lib.hid (R4.out h6 h45)
        have i6 : (gk == 6) = false := by simp [h6]
        have i4 : (gk == 4) = false := by rw [beq_eq_false_iff_ne]; omega
        have i5 : (gk == 5) = false := by rw [beq_eq_false_iff_ne]; omega
        have i3 : gk ≤ 3 := by omega
        clear R4 R5 R6 h6 h45
        by_cases hm : m = 0
        · have e0 : Hid (rb = true) := Lib.hid (by rw [RR.out, decide_eq_true hm])
          subst hm
          clear RR
          go_wp2_with fail
          go_meet
          exact ⟨by rw [e0.out]; rfl, by first | rfl | trivial⟩
        · have e0 : Hid (rb = false) := Lib.hid (by rw [RR.out, decide_eq_false hm])
          have i1 : ((m : Int) != 0) = true := by simp; omega
          clear RR hm
          go_wp2_with fail
          go_meet
          exact ⟨by rw [e0.out]; rfl, by first | rfl | trivial⟩
      case rest =>
        obtain ⟨rfl, rfl⟩ := hcut
        cases rb
        · have e0 := Lib.hid (G13b.out rfl)
          go_wp2_with fail
          go_ret
          exact ⟨by rw [e0.out]; rfl, K2.out⟩
        have G25c := Lib.hid (G25b.out rfl)
        have G0c := Lib.hid (G0b.out rfl)
        clear G13b G25b G0b R4 R5 R6
        go_wp2_with fail
        clear x1 x2 x3 q1 q2 q3 q4 q5 q6 q7 q8 q9 q10 q11
        go_loopw [8] (fun j wr => ∃ k : Nat, k ≤ m ∧ j = .int .i64 k ∧ Hid (∀ j, j < k → numAt gl i j = true) ∧ Hid (Below W2.heap.size W2 wr)) (fun j _ => m - (intOf j).toNat)
        case atStart => exact ⟨0, Nat.zero_le _, rfl, Lib.hid (fun j hj => by omega), Lib.hid (Below.refl _ _)⟩
        case round =>
          obtain ⟨k, hk, rfl, hT, hD⟩ := hrel
          have x1 := (H2.out.step0 hD.out).cell 0
          have x3 := (H2.out.step0 hD.out).cell 2
          by_cases hlt : k < m
          · obtain ⟨y, hy⟩ : ∃ y, gl[k]? = some y := ⟨gl[k]'(by rw [HML.out]; exact hlt), by simp⟩
            obtain ⟨g, o2, rfl, c1⟩ := IR.out k y hy wr hD.out
            have AY := Lib.hid (at_get hy)
            have j1 : (k : Int) < m := by omega
            have j0 : (0 : Int) ≤ (k : Int) := by omega
            have NA : Hid (numAt gl i k = (inB y i && (decide (k = 0) || decide (at0 gl (k - 1) < y)))) := Lib.hid (by unfold numAt; rw [AY.out])
            have IB : Hid (inB y i = (decide (0 ≤ y) && decide (y < i))) := Lib.hid rfl
            have NF1 := Lib.hid (NF.out k hlt)
            obtain ⟨G, hG⟩ : ∃ G, numAt gl i k = G := ⟨_, rfl⟩
            rw [hG] at NA NF1
            have GG := Lib.hid hG
            clear hG
            have BAD : Hid (G = false → R = 25) := Lib.hid (fun e => G25c.out (NF1.out e))
            have T2 : Hid (G = true → ∀ j, j < k + 1 → numAt gl i j = true) := Lib.hid (fun e j hj => by
              by_cases ej : j = k
              · subst ej
                exact GG.out.trans e
              · exact hT.out j (by omega))
            have HY := Lib.hid hy
            clear hy NF1 G25c
            generalize inB y i = iy at *
            go_upto_region 17 with fail
            by_cases y0 : y < 0
            · have e0 := Lib.hid (BAD.out (by rw [NA.out, IB.out, decide_eq_false (by omega)]; rfl))
              clear NA IB BAD T2
              go_quiet (fail)
              go_wp2_with fail
              go_ret
              exact ⟨by rw [e0.out]; rfl, KW.out _ (below_drewN hD.out _)⟩
            by_cases y1 : (i : Int) ≤ y
            · have e0 := Lib.hid (BAD.out (by rw [NA.out, IB.out, decide_eq_false (show ¬ y < (i : Int) by omega), Bool.and_false, Bool.false_and]))
              clear NA IB BAD T2
              go_quiet (fail)
              go_wp2_with fail
              go_ret
              exact ⟨by rw [e0.out]; rfl, KW.out _ (below_drewN hD.out _)⟩
            have NA2 : Hid (G = (decide (k = 0) || decide (at0 gl (k - 1) < y))) := Lib.hid (by rw [NA.out, IB.out, decide_eq_true (by omega), decide_eq_true (by omega)]; rfl)
            clear NA IB
            by_cases hk0 : k = 0
            · have T3 := Lib.hid (T2.out (by rw [NA2.out, decide_eq_true hk0]; rfl))
              have j2 : ¬ (0 : Int) < (k : Int) := by omega
              have j2n : ¬ 0 < k := by omega
              have j2d : decide (0 < k) = false := decide_eq_false j2n
              clear BAD T2 NA2 hk0
              go_quiet (fail)
              go_wp2_with fail
              go_roundw
              case rel => exact ⟨k + 1, by omega, by go_num, T3, Lib.hid (below_drewN hD.out _)⟩
              case measure => simp [intOf]; omega
            · obtain ⟨x, hx⟩ : ∃ x, gl[k - 1]? = some x := ⟨gl[k - 1]'(by rw [HML.out]; omega), by simp⟩
              obtain ⟨g', o', ep, c2⟩ := IR.out (k - 1) x hx wr hD.out
              injection ep with ep
              injection ep with e1 e2 _
              subst e1 e2
              have AX := Lib.hid (at_get hx)
              obtain ⟨k1, hk1⟩ : ∃ k1, k1 = k - 1 := ⟨_, rfl⟩
              rw [← hk1] at c2
              have j2 : (0 : Int) < (k : Int) := by omega
              have j2n : 0 < k := by omega
              have j2d : decide (0 < k) = true := decide_eq_true j2n
              have j3 : (k : Int) - 1 = (k1 : Int) := by omega
              have j4 : (0 : Int) ≤ (k1 : Int) := by omega
              have j5 : (k1 : Int) < m := by omega
              have j6 : IntKind.i64.wrap ((k : Int) - 1) = (k1 : Int) := by rw [j3, IntKind.wrap_i64]; omega
              have j7 : IntKind.i64.wrap (k1 : Int) = (k1 : Int) := by rw [IntKind.wrap_i64]; omega
              have NA3 : Hid (G = decide (x < y)) := Lib.hid (by rw [NA2.out, decide_eq_false hk0, AX.out]; rfl)
              clear hx hk1 hk0 NA2
              by_cases hxy : y ≤ x
              · have e0 := Lib.hid (BAD.out (by rw [NA3.out, decide_eq_false (by omega)]))
                clear BAD T2 NA3
                go_quiet (fail)
                go_wp2_with fail
                go_ret
                exact ⟨by rw [e0.out]; rfl, KW.out _ (below_drewN hD.out _)⟩
              · have T3 := Lib.hid (T2.out (by rw [NA3.out, decide_eq_true (by omega)]))
                clear BAD T2 NA3
                go_quiet (fail)
                go_wp2_with fail
                go_roundw
                case rel => exact ⟨k + 1, by omega, by go_num, T3, Lib.hid (below_drewN hD.out _)⟩
                case measure => simp [intOf]; omega
          · obtain rfl : k = m := by omega
            have e0 := Lib.hid (G0c.out (NT.out hT.out))
            have D := Lib.hid (KW.out _ hD.out)
            go_wp2_with fail
            go_ret
            exact ⟨by rw [e0.out]; rfl, D.out⟩
end NetT
end Go.Proofs.YtgbbpliihglijaaGreat
