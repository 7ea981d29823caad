/- The reference's Cone. Conditions: those of the reference's Check. Made by gnCr.py. -/
import Derived.Test.YtkfeliogglnngaaNetCc
import Derived.Test.YtkfeliogglnngaaNetBt
import Derived.Test.YtkfeliogglnngaaNetNv
import Derived.Test.YtkfeliogglnngaaNetY
import Derived.Test.YtkfeliogglnngaaNetS
import Derived.Test.YtkfeliogglnngaaGBD
import Derived.Test.YtkfeliogglnngaaGBB
namespace Go.Proofs.Ytkfeliogglnngaa
open Go Go.RowKit
namespace NetCr
open Kit LexM TermM TermI TermH NetM NetN NetK NetA NetC NetI NetMk NetNu NetOk NetEv NetBo NetS NetCo NetCc NetBt
theorem cone_no {f : Tm → Bool} {n : Nt} {g : Int} (h : ¬ (chkN f n = 0 ∧ 0 ≤ g ∧ g < n.gates.length)) : coneE f n g = [] := by unfold coneE; rw [if_neg h]
theorem cone_yes {f : Tm → Bool} {n : Nt} {g : Nat} (h : chkN f n = 0) (hg : g < n.gates.length) : coneE f n g = coneN n g := by unfold coneE; rw [if_pos ⟨h, by omega, by omega⟩, Int.toNat_natCast]
set_option maxRecDepth 100000 in
set_option maxHeartbeats 6400000 in
theorem rcone_any (n : Nt) (h : Nh) (g : Int) (B : Nat) (w : World) (hB : B ≤ w.heap.size) (k : NetIn (· < B) w n h) (hz : SzN n) :
    Calls Try.prog 21 #[.agg #[.slice h.gp n.gates.length h.gc, .slice h.rp n.roles.length h.rc, .slice h.bp n.bases.length h.bc, .slice h.ip n.inputs.length h.ic, .slice h.ap n.initial.length h.ac, .slice h.np n.next.length h.nc, .slice h.lp n.legal.length h.lc, .slice h.op n.goals.length h.oc, .slice h.sp n.sees.length h.sc, .int .i64 n.last, .bool n.hid], .int .i64 g] w (NlE (coneE groundB n g) w) := by
  obtain ⟨W1, hW1⟩ : ∃ z, z = w.alloc (.cells #[.slice h.gp n.gates.length h.gc, .slice h.rp n.roles.length h.rc, .slice h.bp n.bases.length h.bc, .slice h.ip n.inputs.length h.ic, .slice h.ap n.initial.length h.ac, .slice h.np n.next.length h.nc, .slice h.lp n.legal.length h.lc, .slice h.op n.goals.length h.oc, .slice h.sp n.sees.length h.sc, .int .i64 n.last, .bool n.hid] 28) := ⟨_, rfl⟩
  have K1 : Hid (Below w.heap.size w W1) := Lib.hid (by rw [hW1]; exact below_alloc _ _)
  have H1 : Hid (Has W1 w.heap.size (netC n h)) := Lib.hid (by rw [hW1]; exact Has.new _ _ _)
  have hzz := K1.out.size
  have KW := Lib.hid (fun w' (q : Below W1.heap.size W1 w') => show Below w.heap.size w w' from K1.out.trans (q.mono hzz))
  have NK := Lib.hid (fun w' (q : Below W1.heap.size W1 w') => k.deep (KW.out w' q) hB)
  have HQ := Lib.hid (fun w' (q : Below W1.heap.size W1 w') => hasN (H1.out.step0 q))
  have CK := Lib.hid (NetY.rcheck_any n h B W1 (Nat.le_trans hB hzz) (NK.out W1 (Below.refl _ _)) hz.next hz.legal hz.goals hz.seen)
  have NO : Hid (¬ (chkN groundB n = 0 ∧ 0 ≤ g ∧ g < n.gates.length) → coneE groundB n g = []) := Lib.hid cone_no
  have YES : Hid (chkN groundB n = 0 → ∀ gn : Nat, g = (gn : Int) → gn < n.gates.length → coneE groundB n g = numsOf (coneT n gn)) := Lib.hid (fun e gn hg h => by rw [hg, cone_yes e h, cone_marks])
  have OKN : Hid (chkN groundB n = 0 → NOk n) := Lib.hid nok
  have GTS := Lib.hid (fun k g (hg : n.gates[k]? = some g) w' (q : Below W1.heap.size W1 w') => show ∃ v b o, h.gp = some ⟨b, o, none⟩ ∧ b < B ∧ w'.cell? ⟨b, o + k * 3 + 2, none⟩ = some v ∧ RowE KN (· < B) w' g.2.2 v from by
    obtain ⟨v, b, o, e1, e2, e3, e4⟩ := (NK.out w' q).gates.at hg
    exact ⟨v, b, o, e1, e2, by have := e4 2 _ rfl; simpa [KG] using this, e3.1⟩)
  have HB := Lib.hid hB
  have hlen : n.gates.length ≤ maxLen := by obtain ⟨_, h1, h2⟩ := k.gates.cap; omega
  unfold maxLen at hlen
  clear k hz
  generalize coneE groundB n g = P at *
  generalize chkN groundB n = ck at *
  generalize h.gp = gpt at *
  obtain ⟨q1, q2, q3, q4, q5, q6, q7, q8, q9, q10, q11⟩ := HQ.out W1 (Below.refl _ _)
  go_enter Try.func21, Try.ntmps21
  go_upto_region 1 with fail
  rw [← hW1]
  clear hW1
  go_wp2_with fail
  refine CK.out.mono ?_
  rintro e w4 ⟨rfl, g4⟩
  have D4 := Lib.hid (next0 (Below.refl W1.heap.size W1) g4)
  have DD4 := Lib.hid (KW.out _ D4.out)
  clear g4 CK q1 q2 q3 q4 q5 q6 q7 q8 q9 q10 q11
  obtain ⟨q1, q2, q3, q4, q5, q6, q7, q8, q9, q10, q11⟩ := HQ.out w4 D4.out
  by_cases hc : ck = 0
  rotate_left
  · have e0 := Lib.hid (NO.out (fun e => hc e.1))
    have i1 : (ck != 0) = true := by simp [hc]
    clear NO YES OKN hc
    go_wp2_with fail
    go_ret
    exact NlE.mk (by rw [e0.out]; exact RowE.nil _ _) DD4.out
  have i1 : (ck != 0) = false := by simp [hc]
  by_cases hg0 : g < 0
  · have e0 := Lib.hid (NO.out (fun e => by omega))
    clear NO YES OKN hc
    go_wp2_with fail
    go_ret
    exact NlE.mk (by rw [e0.out]; exact RowE.nil _ _) DD4.out
  by_cases hg1 : (n.gates.length : Int) ≤ g
  · have e0 := Lib.hid (NO.out (fun e => by omega))
    clear NO YES OKN hc
    go_wp2_with fail
    go_ret
    exact NlE.mk (by rw [e0.out]; exact RowE.nil _ _) DD4.out
  obtain ⟨gn, rfl⟩ : ∃ gn : Nat, g = (gn : Int) := ⟨g.toNat, by omega⟩
  have hgn : gn < n.gates.length := by omega
  have FIN := Lib.hid (YES.out hc gn rfl hgn)
  have OK := Lib.hid (OKN.out hc)
  have hg16 : n.gates.length ≤ 16384 := OK.out.few
  clear NO YES OKN hc hg1
  obtain ⟨wm, M, O, G⟩ := make_b w4 n.gates.length (by omega)
  have O0 := Lib.hid O
  have B0 := Lib.hid ((Below.refl w4.heap.size w4).grown G (Nat.le_refl _) (fun k h => by cases h))
  have x1 := (O0.out.cellAt gn (by omega)).trans (boolv_get (by rw [List.getElem?_replicate, if_pos hgn] : (List.replicate n.gates.length false)[gn]? = some false))
  have x2 := O0.out.frozenAt gn
  have ST := Lib.hid (O0.out.stored gn (.bool true))
  have hz7 := DD4.out.size
  have hzB : B ≤ w4.heap.size := Nat.le_trans HB.out hz7
  have LT : Hid ((mark1 (List.replicate n.gates.length false) gn).length = n.gates.length) := Lib.hid (by simp [mark1])
  have OO : Hid ((wm.setCell ⟨w4.heap.size, gn, none⟩ (.bool true)).ownsRow w4.heap.size 4 1 (.slice (some ⟨w4.heap.size, 0, none⟩) n.gates.length n.gates.length) n.gates.length (boolV (mark1 (List.replicate n.gates.length false) gn))) := Lib.hid (by
    have h := ST.out.1
    rw [boolv_set] at h
    exact h)
  have BBm : Hid (Below w4.heap.size w4 (wm.setCell ⟨w4.heap.size, gn, none⟩ (.bool true))) := Lib.hid (B0.out.setCell (p := ⟨w4.heap.size, gn, none⟩) (Nat.le_refl _) _)
  have TT : Hid (coneT n gn = coneRest n (gn + 1) (mark1 (List.replicate n.gates.length false) gn)) := Lib.hid rfl
  have GT2 := Lib.hid (fun k g (hg : n.gates[k]? = some g) => OK.out.gate k g hg)
  have CL := Lib.hid (conet_len n gn)
  generalize coneT n gn = T at *
  generalize mark1 (List.replicate n.gates.length false) gn = S0 at *
  have qm := (HQ.out wm (next0 D4.out B0.out)).1
  clear O G O0 ST
  generalize hgm : n.gates.length = m at *
  have HM := Lib.hid hgm
  clear hgm
  generalize hg00 : w4.heap.size = g0 at *
  have HG0 := Lib.hid hg00
  clear hg00
  have j0 : (0 : Int) ≤ (gn : Int) := by omega
  have j1 : (gn : Int) < m := by omega
  go_wp2_with fail
  clear q1 q2 q3 q4 q5 q6 q7 q8 q9 q10 q11 qm x1 x2 j0 j1 M
  generalize hws : wm.setCell ⟨g0, gn, none⟩ (.bool true) = ws at *
  clear hws
  go_loopw [6] (fun i wr => ∃ (c : Nat) (S : List Bool) (z : Int), i = .int .i64 z ∧ z = (c : Int) - 1 ∧ c ≤ gn + 1 ∧ Hid (T = coneRest n c S) ∧ Hid (S.length = m) ∧ Hid (wr.ownsRow g0 4 1 (.slice (some ⟨g0, 0, none⟩) m m) m (boolV S)) ∧ Hid (Below g0 w4 wr)) (fun i _ => (intOf i + 1).toNat)
  case atStart => exact ⟨gn + 1, S0, (gn : Int), rfl, by omega, Nat.le_refl _, TT, LT, OO, BBm⟩
  case round =>
    obtain ⟨c, S, z, rfl, hz, hcg, hT, hL, hO, hD⟩ := hrel
    have HZg := HG0.out
    have hzr := hD.out.size
    have DW : Hid (Below W1.heap.size W1 wr) := Lib.hid (next0 D4.out (by rw [HG0.out]; exact hD.out))
    cases c with
    | zero =>
      obtain rfl : z = -1 := by omega
      have TS : Hid (T = S) := hT
      have MK := Lib.hid (NetNv.marked_any S (fun b => g0 ≤ b ∧ b < wr.heap.size) wr (.slice (some ⟨g0, 0, none⟩) m m) (own_rowb (by rw [hL.out]; exact hO.out)) (fun b hb => hb.2) (by rw [hL.out]; omega))
      unfold NuE at MK
      clear hz hzr HZg
      go_wp2_with fail
      refine MK.out.mono ?_
      rintro e w7 ⟨v, rfl, r7, g7⟩
      have DF := Lib.hid (KW.out _ (next0 DW.out g7))
      have hzf : w.heap.size ≤ wr.heap.size := (KW.out _ DW.out).size
      have R7 := Lib.hid (r7.wide (ok' := fun b => w.heap.size ≤ b ∧ b < w7.heap.size) fun b hb => ⟨Nat.le_trans hzf hb.1, hb.2⟩)
      obtain ⟨p7, c7, rfl⟩ := r7.form
      clear g7 r7 MK
      go_wp2_with fail
      go_ret
      exact NlE.mk (by rw [FIN.out, TS.out]; exact R7.out) DF.out
    | succ j =>
      obtain rfl : z = (j : Int) := by omega
      have hjm : j < m := by omega
      obtain ⟨⟨gk, gx, gl⟩, hg⟩ : ∃ g, n.gates[j]? = some g := ⟨n.gates[j]'(by rw [HM.out]; exact hjm), by simp⟩
      obtain ⟨v, b, o, rfl, hbB, c2, rv⟩ := GTS.out j _ hg wr DW.out
      obtain ⟨p, c, rfl⟩ := rv.form
      have hnl : gl.length ≤ maxLen := by obtain ⟨_, h1, h2⟩ := rv.cap; exact Nat.le_trans h1 h2
      unfold maxLen at hnl
      have OKG := Lib.hid (GT2.out j _ hg)
      have HRD := Lib.hid (reads_get hg)
      have STEP := Lib.hid (rest_step n j S)
      have IR := Lib.hid (fun j x (hx : gl[j]? = some x) w' (q : Below g0 wr w') => show ∃ g' o', p = some ⟨g', o', none⟩ ∧ w'.cell? ⟨g', o' + j, none⟩ = some (.int .i64 x) from by
        obtain ⟨g', o', e1, e2, _, e4⟩ := rv.at hx
        refine ⟨g', o', e1, (q.cell (p := ⟨g', _, none⟩) (show g' < g0 by have : g' < B := e2; omega)).trans ?_⟩
        have := e4 0 _ rfl
        simpa [KN] using this)
      have C2 := Lib.hid (fun w' (q : Below g0 wr w') => (q.cell (p := ⟨b, o + j * 3 + 2, none⟩) (show b < g0 by omega)).trans c2)
      obtain ⟨sb, hsb⟩ : ∃ x, S[j]? = some x := ⟨S[j]'(by rw [hL.out]; exact hjm), by simp⟩
      have HSB := Lib.hid hsb
      have HW : Hid (w.heap.size < g0) := Lib.hid (by have h1 := H1.out.lt; have h2 := D4.out.size; omega)
      have j2 : (0 : Int) ≤ (j : Int) := by omega
      have j3 : (j : Int) < m := by omega
      have QW : Hid (wr.cell? ⟨w.heap.size, 0, none⟩ = some (.slice (some ⟨b, o, none⟩) m h.gc)) := Lib.hid (HQ.out wr DW.out).1
      have HQ1 := Lib.hid (fun w' (q : Below g0 wr w') => (q.cell (p := ⟨w.heap.size, 0, none⟩) HW.out).trans QW.out)
      generalize hgl : gl.length = nl at *
      have HGL := Lib.hid hgl
      clear hgl hg c2 rv hsb hz hzr HZg
      generalize hwo : wr = wo at *
      clear hwo
      cases sb
      · have ST : Hid (coneStep n S j = S) := Lib.hid (by unfold coneStep; rw [if_neg (by rw [b_get HSB.out]; decide)])
        have T2 : Hid (T = coneRest n j S) := Lib.hid (by rw [hT.out, STEP.out, ST.out])
        clear STEP ST IR HRD OKG
        have q1 := HQ1.out wo (Below.refl _ _)
        have c2 := C2.out wo (Below.refl _ _)
        have x1 := (hO.out.cellAt j (by omega)).trans (boolv_get HSB.out)
        go_wp2_with fail
        go_loopw [7] (fun i wq => i = .int .i64 0 ∧ wo = wq) (fun _ _ => 0)
        case atStart => exact ⟨rfl, rfl⟩
        case round =>
          obtain ⟨rfl, rfl⟩ := hrel
          by_cases hn0 : 0 < nl
          · have hn1 : (0 : Int) < (nl : Int) := by omega
            go_wp2_with fail
            go_roundw
            case rel => first | exact ⟨j, S, (j : Int) - 1, by go_num, by omega, by omega, T2, hL, hO, hD⟩ | ((repeat (apply Exists.intro)); refine ⟨?_, rfl⟩; exact ⟨j, S, (j : Int) - 1, by go_num, by omega, by omega, T2, hL, hO, hD⟩)
            case measure => simp [intOf] <;> omega
          · have hn1 : ¬ (0 : Int) < (nl : Int) := by omega
            go_wp2_with fail
            go_roundw
            case rel => first | exact ⟨j, S, (j : Int) - 1, by go_num, by omega, by omega, T2, hL, hO, hD⟩ | ((repeat (apply Exists.intro)); refine ⟨?_, rfl⟩; exact ⟨j, S, (j : Int) - 1, by go_num, by omega, by omega, T2, hL, hO, hD⟩)
            case measure => simp [intOf] <;> omega
      · have ST : Hid (coneStep n S j = markL S gl) := Lib.hid (by unfold coneStep; rw [if_pos (b_get HSB.out), HRD.out])
        have T2 : Hid (T = coneRest n j (markL S gl)) := Lib.hid (by rw [hT.out, STEP.out, ST.out])
        have MN := Lib.hid (fun k x (hx : gl[k]? = some x) => mark_next S gl hx)
        have ML : Hid (∀ k, (markL S (gl.take k)).length = m) := Lib.hid (fun k => by rw [mark_len]; exact hL.out)
        have MJ : Hid (∀ k, (markL S (gl.take k))[j]? = some true) := Lib.hid (fun k => b_some (mark_b.2 (Or.inl (b_get HSB.out))))
        have MA : Hid (markL S gl = markL S (gl.take nl)) := Lib.hid (by rw [← HGL.out, List.take_length])
        clear STEP ST HRD
        go_wp2_with fail
        go_loopw [7] (fun i wq => ∃ k : Nat, k ≤ nl ∧ i = .int .i64 k ∧ Hid (wq.ownsRow g0 4 1 (.slice (some ⟨g0, 0, none⟩) m m) m (boolV (markL S (gl.take k)))) ∧ Hid (Below g0 wo wq)) (fun i _ => nl - (intOf i).toNat)
        case atStart => exact ⟨0, Nat.zero_le _, rfl, hO, Lib.hid (Below.refl _ _)⟩
        case round =>
          generalize hwq : wr = wq at *
          clear hwq
          obtain ⟨k, hk, rfl, hO2, hQ⟩ := hrel
          have q1 := HQ1.out wq hQ.out
          have c2 := C2.out wq hQ.out
          by_cases hlt : k < nl
          · obtain ⟨x, hx⟩ : ∃ x, gl[k]? = some x := ⟨gl[k]'(by rw [HGL.out]; exact hlt), by simp⟩
            obtain ⟨g', o', rfl, c1⟩ := IR.out k x hx wq hQ.out
            have hxr := OKG.out.rd x (List.mem_of_getElem? hx)
            obtain ⟨t, rfl⟩ : ∃ t : Nat, x = (t : Int) := ⟨x.toNat, by omega⟩
            have t0 : (0 : Int) ≤ (k : Int) := by omega
            have t1 : (k : Int) < nl := by omega
            have t2 : (0 : Int) ≤ (t : Int) := by omega
            have t3 : (t : Int) < m := by omega
            have x0 := (hO2.out.cellAt j (by omega)).trans (boolv_get (MJ.out k))
            obtain ⟨bt, hbt⟩ : ∃ bt, (markL S (gl.take k))[t]? = some bt := ⟨_, List.getElem?_eq_getElem (by rw [ML.out]; omega)⟩
            have x1 := (hO2.out.cellAt t (by omega)).trans (boolv_get hbt)
            have x2 := hO2.out.frozenAt t
            have SS := Lib.hid (hO2.out.stored t (.bool true))
            have S1 : Hid ((boolV (markL S (gl.take k))).set t (.bool true) = boolV (markL S (gl.take (k + 1)))) := Lib.hid (by rw [boolv_set, MN.out k _ hx]; rfl)
            have OO2 := Lib.hid (S1.out ▸ SS.out.1)
            have BB2 := Lib.hid (hQ.out.setCell (p := ⟨g0, t, none⟩) (Nat.le_refl _) (.bool true))
            clear hx hbt hxr SS S1
            go_wp2_with fail
            go_roundw
            case rel => first | exact ⟨k + 1, by omega, by go_num, OO2, BB2⟩ | ((repeat (apply Exists.intro)); refine ⟨?_, rfl⟩; exact ⟨k + 1, by omega, by go_num, OO2, BB2⟩)
            case measure => simp [intOf] <;> omega
          · obtain rfl : k = nl := by omega
            have OF : Hid (wq.ownsRow g0 4 1 (.slice (some ⟨g0, 0, none⟩) m m) m (boolV (markL S gl))) := Lib.hid (by rw [MA.out]; exact hO2.out)
            have LF : Hid ((markL S gl).length = m) := Lib.hid (by rw [mark_len]; exact hL.out)
            have DF : Hid (Below g0 w4 wq) := Lib.hid (hD.out.trans hQ.out)
            go_wp2_with fail
            go_roundw
            case rel => first | exact ⟨j, markL S gl, (j : Int) - 1, by go_num, by omega, by omega, T2, LF, OF, DF⟩ | ((repeat (apply Exists.intro)); refine ⟨?_, rfl⟩; exact ⟨j, markL S gl, (j : Int) - 1, by go_num, by omega, by omega, T2, LF, OF, DF⟩)
            case measure => simp [intOf] <;> omega
end NetCr
end Go.Proofs.Ytkfeliogglnngaa
