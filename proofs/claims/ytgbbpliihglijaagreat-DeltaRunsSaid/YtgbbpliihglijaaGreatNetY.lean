/- The reference's Check: the error of a network. Condition: lists of at most a million outputs. Made by gnY.py. -/
import Derived.Test.YtgbbpliihglijaaGreatNetS
import Derived.Test.YtgbbpliihglijaaGreatNetT
import Derived.Test.YtgbbpliihglijaaGreatNetU
import Derived.Test.YtgbbpliihglijaaGreatNetX
namespace Go.Proofs.YtgbbpliihglijaaGreat
open Go Go.RowKit
namespace NetY
open Kit LexM TermM TermI TermH NetM NetN NetK NetA NetB NetS
theorem chk_rest {n : Nt} (h : ¬ 16384 < n.gates.length) (ht : ∀ j x, n.gates[j]? = some x → gateE n j x = 0) : chkN groundB n = if (rolesB n.roles && (listsB groundB n && outsB groundB n)) = true then 0 else 13 := by
  have e : gatesE n 0 n.gates = 0 := gates_ok fun j x hx => by rw [Nat.zero_add]; exact ht j x hx
  unfold chkN
  rw [if_neg h, if_neg (by rw [e]; decide)]
set_option maxRecDepth 100000 in
set_option maxHeartbeats 6400000 in
theorem rcheck_any (n : Nt) (h : Nh) (B : Nat) (w : World) (hB : B ≤ w.heap.size) (k : NetIn (· < B) w n h) (h1 : n.next.length ≤ 1000000) (h2 : n.legal.length ≤ 1000000) (h3 : n.goals.length ≤ 1000000) (h4 : n.sees.length ≤ 1000000) :
    Calls Tryz.prog 49 #[.agg #[.slice h.gp n.gates.length h.gc, .slice h.rp n.roles.length h.rc, .slice h.bp n.bases.length h.bc, .slice h.ip n.inputs.length h.ic, .slice h.ap n.initial.length h.ac, .slice h.np n.next.length h.nc, .slice h.lp n.legal.length h.lc, .slice h.op n.goals.length h.oc, .slice h.sp n.sees.length h.sc, .int .i64 n.last, .bool n.hid]] w fun e w' => e = .returned (.int .i64 (chkN groundB n)) ∧ Below w.heap.size w w' := by
  obtain ⟨W1, hW1⟩ : ∃ z, z = w.alloc (.cells #[.slice h.gp n.gates.length h.gc, .slice h.rp n.roles.length h.rc, .slice h.bp n.bases.length h.bc, .slice h.ip n.inputs.length h.ic, .slice h.ap n.initial.length h.ac, .slice h.np n.next.length h.nc, .slice h.lp n.legal.length h.lc, .slice h.op n.goals.length h.oc, .slice h.sp n.sees.length h.sc, .int .i64 n.last, .bool n.hid] 28) := ⟨_, rfl⟩
  have K1 : Hid (Below w.heap.size w W1) := Lib.hid (by rw [hW1]; exact below_alloc _ _)
  have H1 : Hid (Has W1 w.heap.size (netC n h)) := Lib.hid (by rw [hW1]; exact Has.new _ _ _)
  have hzz := K1.out.size
  have KW := Lib.hid (fun w' (q : Below W1.heap.size W1 w') => show Below w.heap.size w w' from K1.out.trans (q.mono hzz))
  have NK := Lib.hid (fun w' (q : Below W1.heap.size W1 w') => k.deep (KW.out w' q) hB)
  have HQ := Lib.hid (fun w' (q : Below W1.heap.size W1 w') => hasN (H1.out.step0 q))
  have hm : n.gates.length ≤ maxLen := by obtain ⟨_, h1, h2⟩ := k.gates.cap; omega
  unfold maxLen at hm
  have F11 := Lib.hid (fun e => chk_long (n := n) e)
  have FB := Lib.hid (fun e k g hg ht h0 => chk_gate (n := n) e (k := k) (g := g) hg ht h0)
  have FK := Lib.hid (fun e ht => chk_rest (n := n) e ht)
  have AE := Lib.hid (fun w' (q : Below W1.heap.size W1 w') i g hg => NetT.rgate_any n h i g B w' (Nat.le_trans hB (KW.out w' q).size) (NK.out w' q) hg)
  have A1 := Lib.hid (fun w' (q : Below W1.heap.size W1 w') => NetU.rroles_any n h B w' (Nat.le_trans hB (KW.out w' q).size) (NK.out w' q))
  have A2 := Lib.hid (fun w' (q : Below W1.heap.size W1 w') => NetV.rlists_any n h B w' (Nat.le_trans hB (KW.out w' q).size) (NK.out w' q))
  have A3 := Lib.hid (fun w' (q : Below W1.heap.size W1 w') => NetX.routs_any n h B w' (Nat.le_trans hB (KW.out w' q).size) (NK.out w' q) h1 h2 h3 h4)
  clear k h1 h2 h3 h4
  generalize chkN groundB n = R at *
  generalize rolesB n.roles = b1 at *
  generalize listsB groundB n = b2 at *
  generalize outsB groundB n = b3 at *
  obtain ⟨q1, q2, q3, q4, q5, q6, q7, q8, q9, q10, q11⟩ := HQ.out W1 (Below.refl _ _)
  generalize hgm : n.gates.length = m at *
  have HM := Lib.hid hgm
  clear hgm
  by_cases hl : 16384 < m
  · have e0 := Lib.hid (F11.out hl)
    have hl' : (16384 : Int) < m := by omega
    go_enter Tryz.func49, Tryz.ntmps49
    go_upto_region 1 with fail
    rw [← hW1]
    clear hW1
    go_wp2_with fail
    go_ret
    exact ⟨by rw [e0.out]; rfl, K1.out⟩
  have hl' : ¬ (16384 : Int) < m := by omega
  have FB1 := Lib.hid (FB.out hl)
  have FK1 := Lib.hid (FK.out hl)
  clear F11 FB FK
  go_enter Tryz.func49, Tryz.ntmps49
  go_upto_region 1 with fail
  rw [← hW1]
  clear hW1
  go_wp2_with fail
  clear q1 q2 q3 q4 q5 q6 q7 q8 q9 q10 q11
  go_loopw [3] (fun i wr => ∃ k : Nat, k ≤ m ∧ i = .int .i64 k ∧ Hid (∀ j x, j < k → n.gates[j]? = some x → gateE n j x = 0) ∧ Hid (Below W1.heap.size W1 wr)) (fun i _ => m - (intOf i).toNat)
  case atStart => exact ⟨0, Nat.zero_le _, rfl, Lib.hid (fun j x hj => by omega), Lib.hid (Below.refl _ _)⟩
  case round =>
    obtain ⟨k, hk, rfl, hT, hD⟩ := hrel
    obtain ⟨q1, q2, q3, q4, q5, q6, q7, q8, q9, q10, q11⟩ := HQ.out wr hD.out
    by_cases hlt : k < m
    · obtain ⟨g, hg⟩ : ∃ g, n.gates[k]? = some g := ⟨n.gates[k]'(by rw [HM.out]; exact hlt), by simp⟩
      have E1 := Lib.hid (AE.out wr hD.out k g hg)
      have FB2 := Lib.hid (FB1.out k g hg hT.out)
      have HG := Lib.hid hg
      clear hg
      generalize hc : gateE n k g = c at *
      have HC := Lib.hid hc
      clear hc
      go_wp2_with fail
      refine E1.out.mono ?_
      rintro e w4 ⟨rfl, g4⟩
      have D4 := Lib.hid (next0 hD.out g4)
      clear g4 E1 q1 q2 q3 q4 q5 q6 q7 q8 q9 q10 q11
      by_cases h0 : c = 0
      · have i1 : (c != 0) = false := by simp [h0]
        have T2 : Hid (∀ j x, j < k + 1 → n.gates[j]? = some x → gateE n j x = 0) := Lib.hid (fun j x hj hx => by
          by_cases e : j = k
          · subst e
            rw [HG.out] at hx
            injection hx with hx
            rw [← hx, HC.out]
            exact h0
          · exact hT.out j x (by omega) hx)
        clear h0 FB2
        go_wp2_with fail
        go_roundw
        case rel => exact ⟨k + 1, by omega, by go_num, T2, D4⟩
        case measure => simp [intOf]; omega
      · have i1 : (c != 0) = true := by simp [h0]
        have e0 := Lib.hid (FB2.out h0)
        have D := Lib.hid (KW.out _ D4.out)
        clear h0 FB2
        go_wp2_with fail
        go_ret
        exact ⟨by rw [e0.out]; rfl, D.out⟩
    · obtain rfl : k = m := by omega
      have FK2 := Lib.hid (FK1.out (fun j x hx => hT.out j x (by have := (List.getElem?_eq_some_iff.1 hx).1; have := HM.out; omega) hx))
      have B1 := Lib.hid (A1.out wr hD.out)
      clear FK1 FB1 AE A1
      go_wp2_with fail
      refine B1.out.mono ?_
      rintro e w4 ⟨rfl, g4⟩
      have D4 := Lib.hid (next0 hD.out g4)
      clear g4 B1 q1 q2 q3 q4 q5 q6 q7 q8 q9 q10 q11
      obtain ⟨q1, q2, q3, q4, q5, q6, q7, q8, q9, q10, q11⟩ := HQ.out w4 D4.out
      have DD4 := Lib.hid (KW.out _ D4.out)
      cases b1
      · have e0 : Hid (R = 13) := Lib.hid (by rw [FK2.out]; rfl)
        go_wp2_with fail
        go_ret
        exact ⟨by rw [e0.out]; rfl, DD4.out⟩
      have B2 := Lib.hid (A2.out w4 D4.out)
      go_wp2_with fail
      refine B2.out.mono ?_
      rintro e w5 ⟨rfl, g5⟩
      have D5 := Lib.hid (next0 D4.out g5)
      clear g5 B2 q1 q2 q3 q4 q5 q6 q7 q8 q9 q10 q11
      obtain ⟨q1, q2, q3, q4, q5, q6, q7, q8, q9, q10, q11⟩ := HQ.out w5 D5.out
      have DD5 := Lib.hid (KW.out _ D5.out)
      cases b2
      · have e0 : Hid (R = 13) := Lib.hid (by rw [FK2.out]; rfl)
        go_wp2_with fail
        go_ret
        exact ⟨by rw [e0.out]; rfl, DD5.out⟩
      have B3 := Lib.hid (A3.out w5 D5.out)
      go_wp2_with fail
      refine B3.out.mono ?_
      rintro e w6 ⟨rfl, g6⟩
      have DD6 := Lib.hid (KW.out _ (next0 D5.out g6))
      clear g6 B3 q1 q2 q3 q4 q5 q6 q7 q8 q9 q10 q11
      cases b3
      · have e0 : Hid (R = 13) := Lib.hid (by rw [FK2.out]; rfl)
        go_wp2_with fail
        go_ret
        exact ⟨by rw [e0.out]; rfl, DD6.out⟩
      · have e0 : Hid (R = 0) := Lib.hid (by rw [FK2.out]; rfl)
        go_wp2_with fail
        go_ret
        exact ⟨by rw [e0.out]; rfl, DD6.out⟩
end NetY
end Go.Proofs.YtgbbpliihglijaaGreat
