/- delta's update: all gates take their values for the facts and moves that the engine holds. Conditions: the engine lies in memory, its rows apart from it; a valid network. Made by gnDu.py. -/
import Derived.Test.YtgbbpliihglijaaGreatNetDw
namespace Go.Proofs.YtgbbpliihglijaaGreat
open Go Go.RowKit
namespace NetDu
open Kit TermM TermI NetM NetN NetK NetA NetC NetI NetMk NetNu NetOk NetEv NetBo NetDn NetDg NetDc NetTn NetDp NetEm NetLt NetDx NetDw
set_option maxRecDepth 100000 in
set_option maxHeartbeats 12800000 in
theorem update_any {fch : Tm → Bool} (n : Nt) (st0 ip0 st ip : List Int) (w : World) (ge gb gv cb cv : Nat) (R : List Value) (vf vm : Value) (wk : Int)
    (hck : chkN fch n = 0) (hst : ∀ x ∈ st, 0 ≤ x) (hip : ∀ x ∈ ip, 0 ≤ x)
    (EU : EngU n ge gb gv cb cv R (valsN st0 ip0 n) (memB st n.bases.length) (memB ip n.inputs.length) vf vm wk w) :
    Calls Tryz.prog 30 #[.pointer (some ⟨ge, 0, none⟩)] w fun e w' => e = .returned (.int .i64 (chN (valsN st0 ip0 n) (valsN st ip n) n.gates.length : Nat)) ∧ EngU n ge gb gv cb cv R (valsN st ip n) (memB st n.bases.length) (memB ip n.inputs.length) vf vm (wkN (valsN st0 ip0 n) (valsN st ip n) n n.gates.length : Nat) w' ∧ Lt (ex3 ge gb gv) w w' := by
  have DK := Lib.hid (dok hck)
  have hg16 : n.gates.length ≤ 16384 := DK.out.ok.few
  have LA := Lib.hid (valsn_len st0 ip0 n)
  have LB := Lib.hid (valsn_len st ip n)
  have NV2 := Lib.hid (fun i g (hg : n.gates[i]? = some g) k => nv_2 (st := st) (ip := ip) DK.out.ok hg k)
  have NV3 := Lib.hid (fun i g (hg : n.gates[i]? = some g) k => nv_3 (st := st) (ip := ip) DK.out.ok hg k)
  have NVR := Lib.hid (fun i g (hg : n.gates[i]? = some g) hr => nv_rd (st := st) (ip := ip) (A := valsN st0 ip0 n) DK.out.ok hg LA.out hr)
  have NVN := Lib.hid (fun i g (hg : n.gates[i]? = some g) k2 k3 hr => nv_no (st := st0) (ip := ip0) (st' := st) (ip' := ip) DK.out.ok hg k2 k3 hr)
  have GK := Lib.hid (fun i g (hg : n.gates[i]? = some g) => DK.out.ok.gate i g hg)
  have TRB := Lib.hid (fun V => tr_bound hck V)
  generalize valsN st0 ip0 n = A at *
  generalize valsN st ip n = B at *
  have MF := Lib.hid (fun (j : Nat) (hj : j < n.bases.length) => memb_get (l := st) hj hst)
  have MM := Lib.hid (fun (j : Nat) (hj : j < n.inputs.length) => memb_get (l := ip) hj hip)
  have LF := Lib.hid (memb_len st n.bases.length)
  have LM := Lib.hid (memb_len ip n.inputs.length)
  generalize memB st n.bases.length = F at *
  generalize memB ip n.inputs.length = M at *
  clear hck hst hip
  obtain ⟨pf, cf, rfl⟩ := EU.rf.form
  obtain ⟨pm, cm, rfl⟩ := EU.rm.form
  have NGE0 : Hid (ge ≠ gb ∧ ge ≠ gv) := Lib.hid ⟨EU.eng.ne1, EU.eng.ne2⟩
  -- the store of the work, and the marks
  have E1 := Lib.hid (EngM.put5 EU.eng (q := 5) (by omega) (.int .i64 0))
  obtain ⟨w1, hw1⟩ : ∃ z, z = w.setCell ⟨ge, 5, none⟩ (.int .i64 0) := ⟨_, rfl⟩
  rw [← hw1] at E1
  have L1 : Hid (Lt (ex3 ge gb gv) w w1) := Lib.hid (by rw [hw1]; exact (Lt.refl _ w).put (p := ⟨ge, 5, none⟩) (Or.inl (Or.inl rfl)) _)
  have hs1 : w1.heap.size = w.heap.size := by rw [hw1]; simp [World.setCell]
  have oth : ∀ o : Nat, o ≠ 5 → w1.cell? ⟨ge, o, none⟩ = w.cell? ⟨ge, o, none⟩ := fun o ho => by rw [hw1]; exact World.cell?_setCell_other _ _ _ _ (by intro e; injection e with e1 e2; omega)
  have f3 := Lib.hid ((oth 3 (by omega)).trans EU.f3)
  have f4 := Lib.hid ((oth 4 (by omega)).trans EU.f4)
  have f5 : Hid (w1.cell? ⟨ge, 5, none⟩ = some (.int .i64 0)) := Lib.hid (by rw [hw1]; exact World.cell?_setCell_same _ _ _ EU.f5)
  have fr : Hid (∀ q : Nat, w1.frozen? ⟨ge, q, none⟩ = false) := Lib.hid (fun q => by rw [hw1, World.frozen?_setCell]; exact EU.free q)
  obtain ⟨wm, MKS, O, G⟩ := make_b w1 n.gates.length (by omega)
  have B0 := Lib.hid ((Below.refl w1.heap.size w1).grown G (Nat.le_refl _) (fun k h => by cases h))
  have hlt1 : ge < w1.heap.size ∧ gb < w1.heap.size ∧ gv < w1.heap.size := ⟨by rw [hs1]; exact EU.lte, by rw [hs1]; exact EU.ltb, by rw [hs1]; exact EU.ltv⟩
  obtain ⟨gr, hgr⟩ : ∃ gr, w1.heap.size = gr := ⟨_, rfl⟩
  have GR := Lib.hid hgr
  have RL := Lib.hid (O.lt w1.heap.size rfl).2
  have Z0 : Hid (UpI n ge gb gv gr cb cv R A B (.slice pf F.length cf) (.slice pm M.length cm) 0 w1 wm) := Lib.hid (by
    rw [← hgr]
    have cc : ∀ b o : Nat, (b = ge ∨ b = gb ∨ b = gv) → wm.cell? ⟨b, o, none⟩ = w1.cell? ⟨b, o, none⟩ ∧ wm.frozen? ⟨b, o, none⟩ = w1.frozen? ⟨b, o, none⟩ := fun b o hb => by
      have hl : b < w1.heap.size := by rcases hb with rfl | rfl | rfl <;> omega
      exact ⟨B0.out.cell (p := ⟨b, o, none⟩) hl, B0.out.frozen (p := ⟨b, o, none⟩) hl⟩
    refine ⟨?_, ⟨?_, ?_, ?_⟩, (cc ge 3 (Or.inl rfl)).1.trans f3.out, (cc ge 4 (Or.inl rfl)).1.trans f4.out, (cc ge 5 (Or.inl rfl)).1.trans f5.out, fun q => (cc ge q (Or.inl rfl)).2.trans (fr.out q), Lt.of B0.out, RL.out⟩
    · rw [mix_zero]
      exact E1.out.keep cc
    · exact rc_len _ _ _ _
    · intro j b hj
      rw [rc_zero DK.out.ok] at hj
      have hj2 : j < n.gates.length := by have := (List.getElem?_eq_some_iff.1 hj).1; rw [List.length_replicate] at this; exact this
      exact (O.cellAt j (by omega)).trans (boolv_get hj)
    · exact fun q => O.frozenAt q)
  have RF := Lib.hid (fun w' (q : Lt (ex4 ge gb gv gr) w1 w') j b (hb : F[j]? = some b) => show ∃ g o, pf = some ⟨g, o, none⟩ ∧ w'.cell? ⟨g, o + j, none⟩ = some (.bool b) from by
    obtain ⟨g, o, e1, e2, _, e4⟩ := EU.rf.at hb
    refine ⟨g, o, e1, ((q.cell (by rw [hs1]; exact e2.1) (fun x => by rcases x with x | x | x | x; exact e2.2.1 x; exact e2.2.2.1 x; exact e2.2.2.2 x; (have := e2.1; omega))).trans (L1.out.cell e2.1 (fun x => by rcases x with x | x | x; exact e2.2.1 x; exact e2.2.2.1 x; exact e2.2.2.2 x))).trans ?_⟩
    have := e4 0 _ rfl
    simpa [KB] using this)
  have RM := Lib.hid (fun w' (q : Lt (ex4 ge gb gv gr) w1 w') j b (hb : M[j]? = some b) => show ∃ g o, pm = some ⟨g, o, none⟩ ∧ w'.cell? ⟨g, o + j, none⟩ = some (.bool b) from by
    obtain ⟨g, o, e1, e2, _, e4⟩ := EU.rm.at hb
    refine ⟨g, o, e1, ((q.cell (by rw [hs1]; exact e2.1) (fun x => by rcases x with x | x | x | x; exact e2.2.1 x; exact e2.2.2.1 x; exact e2.2.2.2 x; (have := e2.1; omega))).trans (L1.out.cell e2.1 (fun x => by rcases x with x | x | x; exact e2.2.1 x; exact e2.2.2.1 x; exact e2.2.2.2 x))).trans ?_⟩
    have := e4 0 _ rfl
    simpa [KB] using this)
  have RR := Lib.hid (fun i v (hv : R[i]? = some v) w' (q : Lt (ex4 ge gb gv gr) w1 w') => show RowE KN (okE ge gb gv w) w' (rdN n i) v from
    (EU.rr i v hv).keep fun b o e2 => (q.cell (by rw [hs1]; exact e2.1) (fun x => by rcases x with x | x | x | x; exact e2.2.1 x; exact e2.2.2.1 x; exact e2.2.2.2 x; (have := e2.1; omega))).trans (L1.out.cell e2.1 (fun x => by rcases x with x | x | x; exact e2.2.1 x; exact e2.2.2.1 x; exact e2.2.2.2 x)))
  have NGR : Hid (gr ≠ ge ∧ gr ≠ gb ∧ gr ≠ gv) := Lib.hid ⟨by omega, by omega, by omega⟩
  have NGE : Hid (ge ≠ gb ∧ ge ≠ gv ∧ gr ≠ ge) := Lib.hid ⟨NGE0.out.1, NGE0.out.2, NGR.out.1⟩
  have LTE : Hid (ge < w1.heap.size) := Lib.hid hlt1.1
  have LTB : Hid (gb < w1.heap.size) := Lib.hid hlt1.2.1
  have LTV : Hid (gv < w1.heap.size) := Lib.hid hlt1.2.2
  have CHG := Lib.hid (fun i v (hv : R[i]? = some v) W (q : Lt (ex4 ge gb gv gr) w1 W) E M b hb => change_any W ge gb gv gr n.gates.length cb cv n.gates.length (kdL n) (trL (mixL A B i) n) R (mixL A B i) (rcL A B n i) i b (rdN n i) v (okE ge gb gv w) E M hb hv (RR.out i v hv W q) (fun p hp => ⟨Nat.lt_of_lt_of_le hp.1 (by have := q.size; omega), hp.2.2.1, hp.2.2.2, by have := hp.1; omega⟩) NGR.out (readby_nodup _ _ _) (fun x hx => rd_range hx) (TRB.out _))
  have LR := Lib.hid EU.eng.lenR
  have FIN : Hid (∀ wr, UpI n ge gb gv gr cb cv R A B (.slice pf F.length cf) (.slice pm M.length cm) n.gates.length w1 wr → EngU n ge gb gv cb cv R B F M (.slice pf F.length cf) (.slice pm M.length cm) (wkN A B n n.gates.length : Nat) wr ∧ Lt (ex3 ge gb gv) w wr) := Lib.hid (fun wr h => by
    have hsz := h.lt.size
    have hE := h.eng
    rw [mix_all LA.out LB.out] at hE
    have wd : ∀ b, okE ge gb gv w b → okE ge gb gv wr b := fun b hb => ⟨by have := hb.1; omega, hb.2⟩
    have hc : ∀ b o : Nat, okE ge gb gv w b → wr.cell? ⟨b, o, none⟩ = w.cell? ⟨b, o, none⟩ := fun b o e2 => (h.lt.cell (by rw [hs1]; exact e2.1) (fun x => by rcases x with x | x | x | x; exact e2.2.1 x; exact e2.2.2.1 x; exact e2.2.2.2 x; (have := e2.1; omega))).trans (L1.out.cell e2.1 (fun x => by rcases x with x | x | x; exact e2.2.1 x; exact e2.2.2.1 x; exact e2.2.2.2 x))
    refine ⟨⟨hE, h.f3, h.f4, h.f5, h.free, by have := EU.lte; omega, by have := EU.ltb; omega, by have := EU.ltv; omega, (EU.rf.keep hc).wide wd, (EU.rm.keep hc).wide wd, fun j v hv => ((EU.rr j v hv).keep hc).wide wd⟩, ?_⟩
    refine L1.out.trans (Lt.drop (B := w1.heap.size) (h.lt.mono fun q x => ?_) (Nat.le_refl _))
    rcases x with x | x | x | x
    · exact Or.inl (Or.inl x)
    · exact Or.inl (Or.inr (Or.inl x))
    · exact Or.inl (Or.inr (Or.inr x))
    · exact Or.inr (by omega))
  have x5 := EU.f5
  have x6 := EU.free 5
  have x7 := E1.out.gates
  have x8 := Z0.out.eng.gates
  have NF := Lib.hid (fun i g (hg : n.gates[i]? = some g) => show (∃ v, R[i]? = some v) ∧ (∃ a, A[i]? = some a) ∧ ∃ b, B[i]? = some b from by
    have hi := (List.getElem?_eq_some_iff.1 hg).1
    exact ⟨⟨_, List.getElem?_eq_getElem (by rw [LR.out]; exact hi)⟩, ⟨_, List.getElem?_eq_getElem (by rw [LA.out]; exact hi)⟩, ⟨_, List.getElem?_eq_getElem (by rw [LB.out]; exact hi)⟩⟩)
  clear EU f3 f4 f5 fr oth O G B0 hlt1 E1 L1 hs1
  go_enter Tryz.func30, Tryz.ntmps30
  go_upto_region 3 with fail
  rw [← hw1]
  clear hw1 x5 x6
  have hgr2 := hgr
  rw [hgr2] at MKS
  go_wp2_with fail
  clear x7 x8 MKS hgr hgr2
  go_loopw [3, 22] (fun s t wr => ∃ i : Nat, i ≤ n.gates.length ∧ s = .int .i64 (chN A B i : Nat) ∧ t = .int .i64 i ∧ Hid (UpI n ge gb gv gr cb cv R A B (.slice pf F.length cf) (.slice pm M.length cm) i w1 wr)) (fun _ t _ => n.gates.length - (intOf t).toNat)
  case atStart => exact ⟨0, Nat.zero_le _, rfl, rfl, Z0⟩
  case round =>
    obtain ⟨i, hi, rfl, rfl, hU⟩ := hrel
    have y1 := hU.out.eng.gates
    have y2 := hU.out.eng.values
    have hch : chN A B i ≤ i := cntp_le _ _
    have hwk : wkN A B n i ≤ i := cntp_le _ _
    by_cases hlt : i < n.gates.length
    · obtain ⟨⟨gk, gx, gl⟩, hg⟩ : ∃ g, n.gates[i]? = some g := ⟨n.gates[i]'hlt, by simp⟩
      obtain ⟨⟨vr, hvr⟩, ⟨a, ha⟩, ⟨bv, hbv⟩⟩ := NF.out i _ hg
      obtain ⟨pr, cr, rfl⟩ := (RR.out i vr hvr wr hU.out.lt).form
      have HVR := Lib.hid hvr
      have EA := Lib.hid ha
      have EB := Lib.hid hbv
      have MA : Hid ((mixL A B i)[i]? = some a) := Lib.hid (by rw [mix_get LA.out LB.out (by omega), if_neg (by omega)]; exact ha)
      have OKG := Lib.hid (GK.out i _ hg)
      have N2 := Lib.hid (fun k => Option.some.inj (hbv.symm.trans (NV2.out i _ hg k)))
      have N3 := Lib.hid (fun k => Option.some.inj (hbv.symm.trans (NV3.out i _ hg k)))
      have NR := Lib.hid (fun k => Option.some.inj (hbv.symm.trans (NVR.out i _ hg k)))
      have NN := Lib.hid (fun k2 k3 hr => Option.some.inj (hbv.symm.trans ((NVN.out i _ hg k2 k3 hr).trans ha)))
      have RCI : Hid ((rcL A B n i)[i]? = some (rdsB A B (gk, gx, gl))) := Lib.hid (rc_at DK.out.ok A B hg)
      have WK1 : Hid (rdsB A B (gk, gx, gl) = true → wkN A B n (i + 1) = wkN A B n i + 1) := Lib.hid (fun e => cntp_yes (by rw [rdat_get hg]; exact e))
      have WK0 : Hid (rdsB A B (gk, gx, gl) = false → wkN A B n (i + 1) = wkN A B n i) := Lib.hid (fun e => cntp_no (by rw [rdat_get hg]; exact e))
      have RLO : Hid (gk < 4 → rdsB A B (gk, gx, gl) = false) := Lib.hid (fun h => by
        rw [Bool.eq_false_iff]
        intro e
        have := (rds_kind OKG.out e).1
        dsimp only at this
        omega)
      have j0 : (0 : Int) ≤ (i : Int) := by omega
      have j1 : (i : Int) < n.gates.length := by omega
      have y3 := hU.out.eng.val i a MA.out
      obtain ⟨y4, y5, y6⟩ := hU.out.eng.kind i gk gx gl.length (kd_get hg)
      have y7 := hU.out.eng.trues i _ (tr_get hg)
      have y8 := hU.out.eng.readers i _ hvr
      dsimp only at y7
      obtain ⟨tn, htn⟩ : ∃ tn, (trN (mixL A B i) gl : Int) = tn := ⟨_, rfl⟩
      rw [htn] at y7
      have HTN := Lib.hid htn
      clear htn
      obtain ⟨W3, hW3⟩ : ∃ z, z = wr.alloc (.cells #[.int .i64 gk, .int .i64 gx, .int .i64 gl.length, .int .i64 tn, .slice pr (rdN n i).length cr] 72) := ⟨_, rfl⟩
      have J3 : Hid (Below wr.heap.size wr W3) := Lib.hid (by rw [hW3]; exact below_alloc _ _)
      have H3 : Hid (Has W3 wr.heap.size #[.int .i64 gk, .int .i64 gx, .int .i64 gl.length, .int .i64 tn, .slice pr (rdN n i).length cr]) := Lib.hid (by rw [hW3]; exact Has.new _ _ _)
      have Z3 := Lib.hid (UpZ.below hU.out.z J3.out LTE.out LTB.out LTV.out)
      have z0 := H3.out.cell 0
      have z1 := H3.out.cell 1
      have z2 := H3.out.cell 2
      have z3 := H3.out.cell 3
      have z4 := H3.out.cell 4
      clear ha hbv hg hvr
      generalize gl.length = nl at *
      generalize (rdN n i).length = nr at *
      go_upto_region 9 with fail
      rw [← hW3]
      clear hW3 y1 y2 y3 y4 y5 y6 y7 y8
      have f3 := Z3.out.f3
      have f4 := Z3.out.f4
      by_cases k2 : gk = 2
      · have hx0 : 0 ≤ gx := OKG.out.x0
        have hxm : gx < (n.bases.length : Int) := by have := OKG.out.xm; unfold mostIx at this; rw [if_pos k2] at this; exact this
        obtain ⟨j, rfl⟩ : ∃ j : Nat, gx = (j : Int) := ⟨gx.toNat, by omega⟩
        have hj : j < n.bases.length := by omega
        obtain ⟨g', o', rfl, zz⟩ := RF.out W3 Z3.out.lt j _ (MF.out j hj)
        have EV : bv = decide ((j : Int) ∈ st) := N2.out k2
        rw [← EV] at zz
        have i2 : (gk == 2) = true := by simp [k2]
        have t2 : (0 : Int) ≤ (j : Int) := by omega
        have t3 : (j : Int) < F.length := by rw [LF.out]; exact hxm
        have HKK : Hid (wkN A B n i = wkN A B n (i + 1)) := Lib.hid (WK0.out (RLO.out (by omega))).symm
        clear EV hx0 hxm NN NR N2 N3 RCI WK0 WK1 RLO k2
        go_wp2_with fail
        go_quiet (fail)
        have Z4 := Lib.hid (UpZ.below Z3.out (below_drewN (Below.refl _ _) nq) LTE.out LTB.out LTV.out)
        obtain ⟨W4, hW4⟩ : ∃ z, z = W3.drewN nq := ⟨_, rfl⟩
        rw [← hW4] at Z4
        rw [← hW4]
        clear hW4 Z3 f3 f4 zz z0 z1 z2 z3 z4
        have g1 := Z4.out.eng.values
        have g2 := Z4.out.eng.val i a (MA.out)
        cases bv <;> cases a
        · have US := Lib.hid (UpZ.same Z4.out LA.out LB.out hlt (EA.out.trans EB.out.symm) HKK.out)
          have U2 := Lib.hid US.out.1
          have C2 : Hid (chN A B (i + 1) = chN A B i) := Lib.hid US.out.2
          clear US HKK EA EB MA
          go_wp2_with fail
          go_roundw
          case rel => first | exact ⟨i + 1, by omega, by rw [C2.out], by go_num, U2⟩ | ((repeat (apply Exists.intro)); refine ⟨?_, rfl⟩; exact ⟨i + 1, by omega, by rw [C2.out], by go_num, U2⟩)
          case measure => simp [intOf] <;> omega
        · have HCH := Lib.hid (CHG.out i _ HVR.out W4 Z4.out.lt Z4.out.eng Z4.out.mks false (by rw [MA.out]; rfl))
          have HOT := Lib.hid (fun w' c => UpZ.other (w' := w') (b := false) Z4.out DK.out LA.out LB.out hlt (by rw [EA.out]; rfl) EB.out HKK.out NGE.out LTE.out c)
          clear HKK EA EB MA
          go_wp2_with fail
          refine HCH.out.mono ?_
          rintro e w9 ⟨rfl, ce⟩
          have US := Lib.hid (HOT.out w9 ce)
          have U2 := Lib.hid US.out.1
          have C2 : Hid (chN A B (i + 1) = chN A B i + 1) := Lib.hid US.out.2
          clear US ce HCH HOT g1 g2
          go_wp2_with fail
          go_roundw
          case rel => first | exact ⟨i + 1, by omega, by rw [C2.out]; go_num, by go_num, U2⟩ | ((repeat (apply Exists.intro)); refine ⟨?_, rfl⟩; exact ⟨i + 1, by omega, by rw [C2.out]; go_num, by go_num, U2⟩)
          case measure => simp [intOf] <;> omega
        · have HCH := Lib.hid (CHG.out i _ HVR.out W4 Z4.out.lt Z4.out.eng Z4.out.mks true (by rw [MA.out]; rfl))
          have HOT := Lib.hid (fun w' c => UpZ.other (w' := w') (b := true) Z4.out DK.out LA.out LB.out hlt (by rw [EA.out]; rfl) EB.out HKK.out NGE.out LTE.out c)
          clear HKK EA EB MA
          go_wp2_with fail
          refine HCH.out.mono ?_
          rintro e w9 ⟨rfl, ce⟩
          have US := Lib.hid (HOT.out w9 ce)
          have U2 := Lib.hid US.out.1
          have C2 : Hid (chN A B (i + 1) = chN A B i + 1) := Lib.hid US.out.2
          clear US ce HCH HOT g1 g2
          go_wp2_with fail
          go_roundw
          case rel => first | exact ⟨i + 1, by omega, by rw [C2.out]; go_num, by go_num, U2⟩ | ((repeat (apply Exists.intro)); refine ⟨?_, rfl⟩; exact ⟨i + 1, by omega, by rw [C2.out]; go_num, by go_num, U2⟩)
          case measure => simp [intOf] <;> omega
        · have US := Lib.hid (UpZ.same Z4.out LA.out LB.out hlt (EA.out.trans EB.out.symm) HKK.out)
          have U2 := Lib.hid US.out.1
          have C2 : Hid (chN A B (i + 1) = chN A B i) := Lib.hid US.out.2
          clear US HKK EA EB MA
          go_wp2_with fail
          go_roundw
          case rel => first | exact ⟨i + 1, by omega, by rw [C2.out], by go_num, U2⟩ | ((repeat (apply Exists.intro)); refine ⟨?_, rfl⟩; exact ⟨i + 1, by omega, by rw [C2.out], by go_num, U2⟩)
          case measure => simp [intOf] <;> omega
      have i2 : (gk == 2) = false := by simp [k2]
      by_cases k3 : gk = 3
      · have hx0 : 0 ≤ gx := OKG.out.x0
        have hxm : gx < (n.inputs.length : Int) := by have := OKG.out.xm; unfold mostIx at this; rw [if_neg k2, if_pos k3] at this; exact this
        obtain ⟨j, rfl⟩ : ∃ j : Nat, gx = (j : Int) := ⟨gx.toNat, by omega⟩
        have hj : j < n.inputs.length := by omega
        obtain ⟨g', o', rfl, zz⟩ := RM.out W3 Z3.out.lt j _ (MM.out j hj)
        have EV : bv = decide ((j : Int) ∈ ip) := N3.out k3
        rw [← EV] at zz
        have i2 : (gk == 3) = true := by simp [k3]
        have t2 : (0 : Int) ≤ (j : Int) := by omega
        have t3 : (j : Int) < M.length := by rw [LM.out]; exact hxm
        have HKK : Hid (wkN A B n i = wkN A B n (i + 1)) := Lib.hid (WK0.out (RLO.out (by omega))).symm
        clear EV hx0 hxm NN NR N2 N3 RCI WK0 WK1 RLO k3
        go_wp2_with fail
        go_quiet (fail)
        have Z4 := Lib.hid (UpZ.below Z3.out (below_drewN (Below.refl _ _) nq) LTE.out LTB.out LTV.out)
        obtain ⟨W4, hW4⟩ : ∃ z, z = W3.drewN nq := ⟨_, rfl⟩
        rw [← hW4] at Z4
        rw [← hW4]
        clear hW4 Z3 f3 f4 zz z0 z1 z2 z3 z4
        have g1 := Z4.out.eng.values
        have g2 := Z4.out.eng.val i a (MA.out)
        cases bv <;> cases a
        · have US := Lib.hid (UpZ.same Z4.out LA.out LB.out hlt (EA.out.trans EB.out.symm) HKK.out)
          have U2 := Lib.hid US.out.1
          have C2 : Hid (chN A B (i + 1) = chN A B i) := Lib.hid US.out.2
          clear US HKK EA EB MA
          go_wp2_with fail
          go_roundw
          case rel => first | exact ⟨i + 1, by omega, by rw [C2.out], by go_num, U2⟩ | ((repeat (apply Exists.intro)); refine ⟨?_, rfl⟩; exact ⟨i + 1, by omega, by rw [C2.out], by go_num, U2⟩)
          case measure => simp [intOf] <;> omega
        · have HCH := Lib.hid (CHG.out i _ HVR.out W4 Z4.out.lt Z4.out.eng Z4.out.mks false (by rw [MA.out]; rfl))
          have HOT := Lib.hid (fun w' c => UpZ.other (w' := w') (b := false) Z4.out DK.out LA.out LB.out hlt (by rw [EA.out]; rfl) EB.out HKK.out NGE.out LTE.out c)
          clear HKK EA EB MA
          go_wp2_with fail
          refine HCH.out.mono ?_
          rintro e w9 ⟨rfl, ce⟩
          have US := Lib.hid (HOT.out w9 ce)
          have U2 := Lib.hid US.out.1
          have C2 : Hid (chN A B (i + 1) = chN A B i + 1) := Lib.hid US.out.2
          clear US ce HCH HOT g1 g2
          go_wp2_with fail
          go_roundw
          case rel => first | exact ⟨i + 1, by omega, by rw [C2.out]; go_num, by go_num, U2⟩ | ((repeat (apply Exists.intro)); refine ⟨?_, rfl⟩; exact ⟨i + 1, by omega, by rw [C2.out]; go_num, by go_num, U2⟩)
          case measure => simp [intOf] <;> omega
        · have HCH := Lib.hid (CHG.out i _ HVR.out W4 Z4.out.lt Z4.out.eng Z4.out.mks true (by rw [MA.out]; rfl))
          have HOT := Lib.hid (fun w' c => UpZ.other (w' := w') (b := true) Z4.out DK.out LA.out LB.out hlt (by rw [EA.out]; rfl) EB.out HKK.out NGE.out LTE.out c)
          clear HKK EA EB MA
          go_wp2_with fail
          refine HCH.out.mono ?_
          rintro e w9 ⟨rfl, ce⟩
          have US := Lib.hid (HOT.out w9 ce)
          have U2 := Lib.hid US.out.1
          have C2 : Hid (chN A B (i + 1) = chN A B i + 1) := Lib.hid US.out.2
          clear US ce HCH HOT g1 g2
          go_wp2_with fail
          go_roundw
          case rel => first | exact ⟨i + 1, by omega, by rw [C2.out]; go_num, by go_num, U2⟩ | ((repeat (apply Exists.intro)); refine ⟨?_, rfl⟩; exact ⟨i + 1, by omega, by rw [C2.out]; go_num, by go_num, U2⟩)
          case measure => simp [intOf] <;> omega
        · have US := Lib.hid (UpZ.same Z4.out LA.out LB.out hlt (EA.out.trans EB.out.symm) HKK.out)
          have U2 := Lib.hid US.out.1
          have C2 : Hid (chN A B (i + 1) = chN A B i) := Lib.hid US.out.2
          clear US HKK EA EB MA
          go_wp2_with fail
          go_roundw
          case rel => first | exact ⟨i + 1, by omega, by rw [C2.out], by go_num, U2⟩ | ((repeat (apply Exists.intro)); refine ⟨?_, rfl⟩; exact ⟨i + 1, by omega, by rw [C2.out], by go_num, U2⟩)
          case measure => simp [intOf] <;> omega
      have i3 : (gk == 3) = false := by simp [k3]
      have m1 := Z3.out.mks.val i _ RCI.out
      obtain ⟨rb, hrb⟩ : ∃ rb, rdsB A B (gk, gx, gl) = rb := ⟨_, rfl⟩
      rw [hrb] at m1
      cases rb
      · obtain rfl : bv = a := NN.out k2 k3 hrb
        have HKK : Hid (wkN A B n i = wkN A B n (i + 1)) := Lib.hid (WK0.out hrb).symm
        have g1 := Z3.out.eng.values
        have g2 := Z3.out.eng.val i bv (MA.out)
        have US := Lib.hid (UpZ.same Z3.out LA.out LB.out hlt (EA.out.trans EB.out.symm) HKK.out)
        have U2 := Lib.hid US.out.1
        have C2 : Hid (chN A B (i + 1) = chN A B i) := Lib.hid US.out.2
        have ne1 : (bv != bv) = false := by simp
        clear US HKK EA EB MA hrb NN NR N2 N3 RCI WK0 WK1 RLO k2 k3
        go_wp2_with fail
        go_roundw
        case rel => first | exact ⟨i + 1, by omega, by rw [C2.out], by go_num, U2⟩ | ((repeat (apply Exists.intro)); refine ⟨?_, rfl⟩; exact ⟨i + 1, by omega, by rw [C2.out], by go_num, U2⟩)
        case measure => simp [intOf] <;> omega
      have HKK : Hid (wkN A B n i + 1 = wkN A B n (i + 1)) := Lib.hid (WK1.out hrb).symm
      have EV : Hid (bv = gvB gk nl tn) := Lib.hid (by rw [← HTN.out]; exact NR.out hrb)
      have GV := Lib.hid (gval_any gk gx nl tn pr nr cr W3)
      rw [← EV.out] at GV
      have f5 := Z3.out.f5
      have f6 := Z3.out.free 5
      have hwr : IntKind.i64.wrap ((wkN A B n i : Int) + 1) = (wkN A B n i : Int) + 1 := by rw [IntKind.wrap_i64]; omega
      clear hrb NN NR N2 N3 RCI WK0 WK1 RLO k2 k3 EV f5 f6
      go_wp2_with fail
      refine GV.out.mono ?_
      rintro e w5 ⟨rfl, g5⟩
      have Z5 := Lib.hid (UpZ.below Z3.out g5 LTE.out LTB.out LTV.out)
      have Z6 := Lib.hid (UpZ.work Z5.out NGR.out.1 (wkN A B n i + 1))
      have f5 := Z5.out.f5
      have f6 := Z5.out.free 5
      clear g5 GV Z3 f3 f4 z0 z1 z2 z3 z4 m1
      obtain ⟨w6, hw6⟩ : ∃ z, z = w5.setCell ⟨ge, 5, none⟩ (.int .i64 ((wkN A B n i : Int) + 1)) := ⟨_, rfl⟩
      rw [show ((wkN A B n i + 1 : Nat) : Int) = (wkN A B n i : Int) + 1 from rfl, ← hw6] at Z6
      go_upto_region 16 with fail
      rw [← hw6]
      clear hw6 hwr f5 f6 Z5
      have g1 := Z6.out.eng.values
      have g2 := Z6.out.eng.val i a (MA.out)
      cases bv <;> cases a
      · have US := Lib.hid (UpZ.same Z6.out LA.out LB.out hlt (EA.out.trans EB.out.symm) HKK.out)
        have U2 := Lib.hid US.out.1
        have C2 : Hid (chN A B (i + 1) = chN A B i) := Lib.hid US.out.2
        clear US HKK EA EB MA
        go_wp2_with fail
        go_roundw
        case rel => first | exact ⟨i + 1, by omega, by rw [C2.out], by go_num, U2⟩ | ((repeat (apply Exists.intro)); refine ⟨?_, rfl⟩; exact ⟨i + 1, by omega, by rw [C2.out], by go_num, U2⟩)
        case measure => simp [intOf] <;> omega
      · have HCH := Lib.hid (CHG.out i _ HVR.out w6 Z6.out.lt Z6.out.eng Z6.out.mks false (by rw [MA.out]; rfl))
        have HOT := Lib.hid (fun w' c => UpZ.other (w' := w') (b := false) Z6.out DK.out LA.out LB.out hlt (by rw [EA.out]; rfl) EB.out HKK.out NGE.out LTE.out c)
        clear HKK EA EB MA
        go_wp2_with fail
        refine HCH.out.mono ?_
        rintro e w9 ⟨rfl, ce⟩
        have US := Lib.hid (HOT.out w9 ce)
        have U2 := Lib.hid US.out.1
        have C2 : Hid (chN A B (i + 1) = chN A B i + 1) := Lib.hid US.out.2
        clear US ce HCH HOT g1 g2
        go_wp2_with fail
        go_roundw
        case rel => first | exact ⟨i + 1, by omega, by rw [C2.out]; go_num, by go_num, U2⟩ | ((repeat (apply Exists.intro)); refine ⟨?_, rfl⟩; exact ⟨i + 1, by omega, by rw [C2.out]; go_num, by go_num, U2⟩)
        case measure => simp [intOf] <;> omega
      · have HCH := Lib.hid (CHG.out i _ HVR.out w6 Z6.out.lt Z6.out.eng Z6.out.mks true (by rw [MA.out]; rfl))
        have HOT := Lib.hid (fun w' c => UpZ.other (w' := w') (b := true) Z6.out DK.out LA.out LB.out hlt (by rw [EA.out]; rfl) EB.out HKK.out NGE.out LTE.out c)
        clear HKK EA EB MA
        go_wp2_with fail
        refine HCH.out.mono ?_
        rintro e w9 ⟨rfl, ce⟩
        have US := Lib.hid (HOT.out w9 ce)
        have U2 := Lib.hid US.out.1
        have C2 : Hid (chN A B (i + 1) = chN A B i + 1) := Lib.hid US.out.2
        clear US ce HCH HOT g1 g2
        go_wp2_with fail
        go_roundw
        case rel => first | exact ⟨i + 1, by omega, by rw [C2.out]; go_num, by go_num, U2⟩ | ((repeat (apply Exists.intro)); refine ⟨?_, rfl⟩; exact ⟨i + 1, by omega, by rw [C2.out]; go_num, by go_num, U2⟩)
        case measure => simp [intOf] <;> omega
      · have US := Lib.hid (UpZ.same Z6.out LA.out LB.out hlt (EA.out.trans EB.out.symm) HKK.out)
        have U2 := Lib.hid US.out.1
        have C2 : Hid (chN A B (i + 1) = chN A B i) := Lib.hid US.out.2
        clear US HKK EA EB MA
        go_wp2_with fail
        go_roundw
        case rel => first | exact ⟨i + 1, by omega, by rw [C2.out], by go_num, U2⟩ | ((repeat (apply Exists.intro)); refine ⟨?_, rfl⟩; exact ⟨i + 1, by omega, by rw [C2.out], by go_num, U2⟩)
        case measure => simp [intOf] <;> omega
    · obtain rfl : i = n.gates.length := by omega
      have FE := Lib.hid (FIN.out wr hU.out)
      go_wp2_with fail
      go_ret
      exact ⟨rfl, FE.out.1, FE.out.2⟩
end NetDu
end Go.Proofs.YtgbbpliihglijaaGreat
