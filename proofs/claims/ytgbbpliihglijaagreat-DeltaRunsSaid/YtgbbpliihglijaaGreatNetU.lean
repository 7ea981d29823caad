/- The reference's roles. No conditions. Made by gnU.py. -/
import Derived.Test.YtgbbpliihglijaaGreatNetR
import Derived.BigQuiet
namespace Go.Proofs.YtgbbpliihglijaaGreat
open Go Go.RowKit
namespace NetU
open Kit LexM TermM TermI NetM NetN NetK NetA NetB
set_option maxRecDepth 100000 in
set_option maxHeartbeats 6400000 in
theorem rroles_any (n : Nt) (h : Nh) (B : Nat) (w : World) (hB : B ≤ w.heap.size) (k : NetIn (· < B) w n h) :
    Calls Tryz.prog 68 #[.agg #[.slice h.gp n.gates.length h.gc, .slice h.rp n.roles.length h.rc, .slice h.bp n.bases.length h.bc, .slice h.ip n.inputs.length h.ic, .slice h.ap n.initial.length h.ac, .slice h.np n.next.length h.nc, .slice h.lp n.legal.length h.lc, .slice h.op n.goals.length h.oc, .slice h.sp n.sees.length h.sc, .int .i64 n.last, .bool n.hid]] w fun e w' => e = .returned (.bool (rolesB n.roles)) ∧ Below w.heap.size w w' := by
  obtain ⟨W1, hW1⟩ : ∃ z, z = w.alloc (.cells #[.slice h.gp n.gates.length h.gc, .slice h.rp n.roles.length h.rc, .slice h.bp n.bases.length h.bc, .slice h.ip n.inputs.length h.ic, .slice h.ap n.initial.length h.ac, .slice h.np n.next.length h.nc, .slice h.lp n.legal.length h.lc, .slice h.op n.goals.length h.oc, .slice h.sp n.sees.length h.sc, .int .i64 n.last, .bool n.hid] 28) := ⟨_, rfl⟩
  have K1 : Hid (Below w.heap.size w W1) := Lib.hid (by rw [hW1]; exact below_alloc _ _)
  have H1 : Hid (Has W1 w.heap.size (netC n h)) := Lib.hid (by rw [hW1]; exact Has.new _ _ _)
  have hzz := K1.out.size
  have KW := Lib.hid (fun w' (q : Below W1.heap.size W1 w') => show Below w.heap.size w w' from K1.out.trans (q.mono hzz))
  have NK := Lib.hid (fun w' (q : Below W1.heap.size W1 w') => k.deep (KW.out w' q) hB)
  have HQ := Lib.hid (fun w' (q : Below W1.heap.size W1 w') => hasN (H1.out.step0 q))
  have RB : Hid (rolesB n.roles = (decide (1 ≤ n.roles.length) && (decide (n.roles.length ≤ 4) && allN n.roles.length (roleAt n.roles)))) := Lib.hid rfl
  have RA : Hid (∀ k x, n.roles[k]? = some x → roleAt n.roles k = (decide (x.args.length = 0) && (nameL x.nm.data.toList && allN k fun j => decide ((tmAt n.roles j).nm ≠ x.nm)))) := Lib.hid (fun k x hx => by
    unfold roleAt
    rw [tm_get hx]
    cases x.args <;> simp)
  clear k
  generalize rolesB n.roles = R at *
  obtain ⟨q1, q2, q3, q4, q5, q6, q7, q8, q9, q10, q11⟩ := HQ.out W1 (Below.refl _ _)
  generalize hm : n.roles.length = m at *
  have HM := Lib.hid hm
  clear hm
  by_cases h1 : m < 1
  · have e0 := Lib.hid (show R = false by rw [RB.out, decide_eq_false (by omega)]; rfl)
    have i1 : (m : Int) < 1 := by omega
    go_enter Tryz.func68, Tryz.ntmps68
    go_upto_region 1 with fail
    rw [← hW1]
    clear hW1
    go_wp2_with fail
    go_ret
    exact ⟨by rw [e0.out]; rfl, K1.out⟩
  by_cases h4 : 4 < m
  · have e0 := Lib.hid (show R = false by rw [RB.out, decide_eq_false (show ¬ m ≤ 4 by omega), Bool.false_and, Bool.and_false])
    have i1 : ¬ (m : Int) < 1 := by omega
    have i2 : (4 : Int) < m := by omega
    go_enter Tryz.func68, Tryz.ntmps68
    go_upto_region 1 with fail
    rw [← hW1]
    clear hW1
    go_wp2_with fail
    go_ret
    exact ⟨by rw [e0.out]; rfl, K1.out⟩
  have i1 : ¬ (m : Int) < 1 := by omega
  have i2 : ¬ (4 : Int) < m := by omega
  have RT : Hid ((∀ j, j < m → roleAt n.roles j = true) → R = true) := Lib.hid (fun h => by rw [RB.out, decide_eq_true (by omega), decide_eq_true (by omega), alln_true.2 h]; rfl)
  have RF : Hid (∀ j, j < m → roleAt n.roles j = false → R = false) := Lib.hid (fun j hj h => by rw [RB.out, alln_false hj h, Bool.and_false, Bool.and_false])
  clear RB
  go_enter Tryz.func68, Tryz.ntmps68
  go_upto_region 1 with fail
  rw [← hW1]
  clear hW1
  go_wp2_with fail
  clear q1 q2 q3 q4 q5 q6 q7 q8 q9 q10 q11
  go_loopw [3] (fun i wr => ∃ k : Nat, k ≤ m ∧ i = .int .i64 k ∧ Hid (∀ j, j < k → roleAt n.roles j = true) ∧ Hid (Below W1.heap.size W1 wr)) (fun i _ => m - (intOf i).toNat)
  case atStart => exact ⟨0, Nat.zero_le _, rfl, Lib.hid (fun j hj => by omega), Lib.hid (Below.refl _ _)⟩
  case round =>
    obtain ⟨k, hk, rfl, hT, hD⟩ := hrel
    obtain ⟨q1, q2, q3, q4, q5, q6, q7, q8, q9, q10, q11⟩ := HQ.out wr hD.out
    by_cases hlt : k < m
    · obtain ⟨x, hx⟩ : ∃ x, n.roles[k]? = some x := ⟨n.roles[k]'(by rw [HM.out]; exact hlt), by simp⟩
      obtain ⟨b, o, q, d, ep, hbB, c0, c1, sx, nx⟩ := slin_at (NK.out wr hD.out).roles hx
      have NM := Lib.hid (TermB.rname_any x.nm wr nx)
      have RA1 := Lib.hid (RA.out k x hx)
      have RF1 := Lib.hid (RF.out k hlt)
      obtain ⟨G, hG⟩ : ∃ G, roleAt n.roles k = G := ⟨_, rfl⟩
      rw [hG] at RA1 RF1
      have GG := Lib.hid hG
      have j0 : (0 : Int) ≤ (k : Int) := by omega
      have j1 : (k : Int) < m := by omega
      have D := Lib.hid (KW.out wr hD.out)
      have XC := Lib.hid (fun w' (g : Below wr.heap.size wr w') => (g.cell (p := ⟨b, o + k * 2, none⟩) (show b < wr.heap.size by have := (KW.out wr hD.out).size; omega)).trans c0)
      have HX := Lib.hid hx
      have TX := Lib.hid (tm_get hx)
      clear hx sx nx hG
      generalize hnb : nameL x.nm.data.toList = nb at *
      clear hnb
      generalize hxn : x.nm = xn at *
      have HXN := Lib.hid hxn
      clear hxn
      generalize x.args.length = xa at *
      by_cases ha : xa = 0
      · subst ha
        go_wp2_with fail
        refine NM.out.mono ?_
        rintro e w' ⟨rfl, rfl⟩
        cases nb
        · have e0 := Lib.hid (RF1.out (by rw [RA1.out, Bool.false_and, Bool.and_false]))
          clear RF1
          go_wp2_with fail
          go_ret
          exact ⟨by rw [e0.out]; rfl, D.out⟩
        have RA2 : Hid (G = allN k fun j => decide ((tmAt n.roles j).nm ≠ xn)) := Lib.hid (by rw [RA1.out]; rfl)
        go_wp2_with fail
        clear q1 q2 q3 q4 q5 q6 q7 q8 q9 q10 q11 c0 c1
        go_loopw [4] (fun i wq => ∃ k2 : Nat, k2 ≤ k ∧ i = .int .i64 k2 ∧ Hid (∀ j, j < k2 → (tmAt n.roles j).nm ≠ xn) ∧ Hid (Below wr.heap.size wr wq)) (fun i _ => k - (intOf i).toNat)
        case atStart => exact ⟨0, Nat.zero_le _, rfl, Lib.hid (fun j hj => by omega), Lib.hid (Below.refl _ _)⟩
        case round =>
          have hD1 := hD
          have hT1 := hT
          obtain ⟨k2, hk2, rfl, hT2, hD2⟩ := hrel
          have D2 := Lib.hid (next0 hD1.out hD2.out)
          obtain ⟨q1, q2, q3, q4, q5, q6, q7, q8, q9, q10, q11⟩ := HQ.out _ D2.out
          have c0 := XC.out _ hD2.out
          by_cases hlt2 : k2 < k
          · obtain ⟨y, hy⟩ : ∃ y, n.roles[k2]? = some y := ⟨n.roles[k2]'(by rw [HM.out]; omega), by simp⟩
            obtain ⟨b', o', q', d', ep', _, e0, e1, _, _⟩ := slin_at (NK.out _ D2.out).roles hy
            rw [ep] at ep'
            injection ep' with ep'
            injection ep' with ea eb _
            subst ea eb
            have TY := Lib.hid (tm_get hy)
            have j2 : (0 : Int) ≤ (k2 : Int) := by omega
            have j3 : (k2 : Int) < m := by omega
            have DD := Lib.hid (KW.out _ D2.out)
            clear hy
            by_cases hyn : y.nm = xn
            · have z0 := Lib.hid (RF1.out (by rw [RA2.out]; exact alln_false hlt2 (by rw [TY.out, decide_eq_false_iff_not]; exact fun h => h hyn)))
              rw [hyn] at e0
              clear hyn
              go_upto_region 11 with fail
              go_quiet (fail)
              go_wp2_with fail
              go_ret
              exact ⟨by rw [z0.out]; rfl, KW.out _ (below_drewN D2.out _)⟩
            · have i9 : (y.nm.toList == xn.toList) = false := by
                rw [beq_eq_false_iff_ne, ByteArray.toList_eq, ByteArray.toList_eq]
                exact fun h => hyn (Go.WideShapes.bytes_inj h)
              have T3 : Hid (∀ j, j < k2 + 1 → (tmAt n.roles j).nm ≠ xn) := Lib.hid (fun j hj => by
                by_cases e : j = k2
                · subst e
                  rw [TY.out]
                  exact hyn
                · exact hT2.out j (by omega))
              clear hyn
              generalize y.nm = yn at *
              go_upto_region 11 with fail
              go_quiet (fail)
              go_wp2_with fail
              go_roundw
              case rel => exact ⟨k2 + 1, by omega, by go_num, T3, Lib.hid (below_drewN hD2.out _)⟩
              case measure => simp [intOf]; omega
          · obtain rfl : k2 = k := by omega
            have T3 : Hid (∀ j, j < k2 + 1 → roleAt n.roles j = true) := Lib.hid (fun j hj => by
              by_cases e : j = k2
              · subst e
                rw [GG.out, RA2.out, alln_true]
                exact fun i hi => decide_eq_true (hT2.out i hi)
              · exact hT1.out j (by omega))
            clear RF1 RA1 RA2
            go_wp2_with fail
            go_roundw
            case rel =>
              first
              | exact ⟨k2 + 1, by omega, by go_num, T3, D2⟩
              | (rw [ep]; (repeat (apply Exists.intro)); refine ⟨?_, rfl⟩; exact ⟨k2 + 1, by omega, by go_num, T3, D2⟩)
            case measure => simp [intOf]; omega
      · have i9 : ((xa : Int) != 0) = true := by simp; omega
        have e0 := Lib.hid (RF1.out (by rw [RA1.out, decide_eq_false ha]; rfl))
        clear RF1 ha
        go_wp2_with fail
        go_ret
        exact ⟨by rw [e0.out]; rfl, D.out⟩
    · obtain rfl : k = m := by omega
      have e0 := Lib.hid (RT.out hT.out)
      have D := Lib.hid (KW.out _ hD.out)
      go_wp2_with fail
      go_ret
      exact ⟨by rw [e0.out]; rfl, D.out⟩
end NetU
end Go.Proofs.YtgbbpliihglijaaGreat
