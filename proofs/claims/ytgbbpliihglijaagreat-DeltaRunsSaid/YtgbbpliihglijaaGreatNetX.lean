/- The reference's outputs. Condition: at most a million outputs of each kind. Made by gnX.py. -/
import Derived.Test.YtgbbpliihglijaaGreatGBD
import Derived.Test.YtgbbpliihglijaaGreatNetV
namespace Go.Proofs.YtgbbpliihglijaaGreat
open Go Go.RowKit
namespace NetX
open Kit TermM TermI TermH NetM NetN NetK NetA NetB NetI NetW NetV NetJ
theorem outs_all (n : Nt) (p : Int → Bool) : (outs n).all p = ((([n.last] ++ n.next ++ n.legal) ++ n.goals.map (·.2.2.2)) ++ n.sees.map (·.2.2.2)).all p := by
  unfold outs
  simp only [List.all_append, List.all_cons, List.all_nil, Bool.and_true]
  rw [Bool.eq_iff_iff]
  simp only [Bool.and_eq_true]
  constructor
  · rintro ⟨⟨⟨⟨h1, h2⟩, h3⟩, h4⟩, h5⟩
    exact ⟨⟨⟨⟨h5, h1⟩, h2⟩, h3⟩, h4⟩
  · rintro ⟨⟨⟨⟨h5, h1⟩, h2⟩, h3⟩, h4⟩
    exact ⟨⟨⟨⟨h1, h2⟩, h3⟩, h4⟩, h5⟩
set_option maxRecDepth 100000 in
set_option maxHeartbeats 6400000 in
theorem routs_any (n : Nt) (h : Nh) (B : Nat) (w : World) (hB : B ≤ w.heap.size) (k : NetIn (· < B) w n h) (h1 : n.next.length ≤ 1000000) (h2 : n.legal.length ≤ 1000000) (h3 : n.goals.length ≤ 1000000) (h4 : n.sees.length ≤ 1000000) :
    Calls Tryz.prog 70 #[.agg #[.slice h.gp n.gates.length h.gc, .slice h.rp n.roles.length h.rc, .slice h.bp n.bases.length h.bc, .slice h.ip n.inputs.length h.ic, .slice h.ap n.initial.length h.ac, .slice h.np n.next.length h.nc, .slice h.lp n.legal.length h.lc, .slice h.op n.goals.length h.oc, .slice h.sp n.sees.length h.sc, .int .i64 n.last, .bool n.hid]] w fun e w' => e = .returned (.bool (outsB groundB n)) ∧ Below w.heap.size w w' := by
  obtain ⟨i0, hi0, hi1, hi2, hi3⟩ := info_parts Tryz.infoN
  obtain ⟨W1, hW1⟩ : ∃ z, z = w.alloc (.cells #[.slice h.gp n.gates.length h.gc, .slice h.rp n.roles.length h.rc, .slice h.bp n.bases.length h.bc, .slice h.ip n.inputs.length h.ic, .slice h.ap n.initial.length h.ac, .slice h.np n.next.length h.nc, .slice h.lp n.legal.length h.lc, .slice h.op n.goals.length h.oc, .slice h.sp n.sees.length h.sc, .int .i64 n.last, .bool n.hid] 28) := ⟨_, rfl⟩
  have K1 : Hid (Below w.heap.size w W1) := Lib.hid (by rw [hW1]; exact below_alloc _ _)
  have H1 : Hid (Has W1 w.heap.size (netC n h)) := Lib.hid (by rw [hW1]; exact Has.new _ _ _)
  have hzz := K1.out.size
  have KW := Lib.hid (fun w' (q : Below W1.heap.size W1 w') => show Below w.heap.size w w' from K1.out.trans (q.mono hzz))
  have NK := Lib.hid (fun w' (q : Below W1.heap.size W1 w') => k.deep (KW.out w' q) hB)
  have HQ := Lib.hid (fun w' (q : Below W1.heap.size W1 w') => hasN (H1.out.step0 q))
  have IA : Hid (∀ x ∈ [n.last] ++ n.next ++ n.legal, I64 x) := Lib.hid (fun x hx => by
    obtain ⟨_, _, _, _, _, _, e1, _⟩ := k.next
    obtain ⟨_, _, _, _, _, _, e2, _⟩ := k.legal
    rcases List.mem_append.1 hx with hx | hx
    · rcases List.mem_append.1 hx with hx | hx
      · rw [List.mem_singleton.1 hx]
        exact k.last
      · exact e1 x hx
    · exact e2 x hx)
  have FG : Hid (∀ j, j < n.goals.length → goalAt n.roles.length n.goals j = false → outsB groundB n = false) := Lib.hid (fun j hj e => by unfold outsB; rw [alln_false hj e]; rfl)
  have FS : Hid (∀ j, j < n.sees.length → seeAt groundB n.roles.length n.sees j = false → outsB groundB n = false) := Lib.hid (fun j hj e => by unfold outsB; rw [alln_false hj e, Bool.false_and, Bool.and_false])
  have FT : Hid ((∀ j, j < n.goals.length → goalAt n.roles.length n.goals j = true) → (∀ j, j < n.sees.length → seeAt groundB n.roles.length n.sees j = true) → ∀ F : List Int, F = (([n.last] ++ n.next ++ n.legal) ++ n.goals.map (·.2.2.2)) ++ n.sees.map (·.2.2.2) → outsB groundB n = F.all fun x => inB x n.gates.length) := Lib.hid (fun e1 e2 F e3 => by
    unfold outsB
    rw [alln_true.2 e1, alln_true.2 e2, outs_all, ← e3]
    rfl)
  clear k
  generalize outsB groundB n = R at *
  obtain ⟨q1, q2, q3, q4, q5, q6, q7, q8, q9, q10, q11⟩ := HQ.out W1 (Below.refl _ _)
  have RN := Lib.hid (fun w' q => (NK.out w' q).next)
  have RL := Lib.hid (fun w' q => (NK.out w' q).legal)
  obtain ⟨X, hX⟩ : ∃ X, X = [n.last] ++ n.next ++ n.legal := ⟨_, rfl⟩
  rw [← hX] at IA FT
  have HX := Lib.hid hX
  clear hX
  generalize hgr : n.roles.length = nr at *
  generalize hgn : n.next.length = a at *
  generalize hgl : n.legal.length = b at *
  generalize hgg : n.goals.length = mg at *
  have HG := Lib.hid hgg
  generalize hgs : n.sees.length = ms at *
  have HS := Lib.hid hgs
  generalize hng : n.gates.length = ng at *
  generalize hln : n.last = t at *
  have HLX : Hid (X.length = 1 + a + b) := Lib.hid (by rw [HX.out, List.length_append, List.length_append, hgn, hgl]; rfl)
  clear hgr hgn hgl hgg hgs hng hln
  have A1 : 1 + a ≤ maxLen := by unfold maxLen; omega
  have A2 : (1 + a) * 8 ≤ 140737488355328 := by omega
  have A3 : 1 + a + b ≤ maxLen := by unfold maxLen; omega
  have A4 : (1 + a + b) * 8 ≤ 140737488355328 := by omega
  have OL := Lib.hid (own_lit W1 t)
  have DL : Hid (Below W1.heap.size W1 (W1.alloc (.cells #[.int .i64 t] 3)).drew) := Lib.hid (below_alloc _ _).drew
  have RN2 := Lib.hid (RN.out _ DL.out)
  have Hb : Hid (∀ w', Below W1.heap.size W1 w' → w'.cell? ⟨w.heap.size, 9, none⟩ = some (.int .i64 t) ∧ w'.cell? ⟨w.heap.size, 5, none⟩ = some (.slice h.np a h.nc) ∧ w'.cell? ⟨w.heap.size, 6, none⟩ = some (.slice h.lp b h.lc)) := Lib.hid (fun w' g => ⟨(HQ.out w' g).2.2.2.2.2.2.2.2.2.1, (HQ.out w' g).2.2.2.2.2.1, (HQ.out w' g).2.2.2.2.2.2.1⟩)
  go_enter Tryz.func70, Tryz.ntmps70
  go_upto_region 1 with fail
  rw [← hW1]
  clear hW1
  go_cut [3] (fun s wx => ∃ pa pc, s = .slice pa X.length pc ∧ Hid (wx.ownsRow W1.heap.size 3 1 (.slice pa X.length pc) X.length (NetI.numV X)) ∧ Hid (Below W1.heap.size W1 wx))
  case first =>
    have hs0 := Hb.out _ (Below.refl W1.heap.size W1).drew
    clear q1 q2 q3 q4 q5 q6 q7 q8 q9 q10 q11
    go_region_held3 (fun w' => w'.cell? ⟨w.heap.size, 9, none⟩ = some (.int .i64 t) ∧ w'.cell? ⟨w.heap.size, 5, none⟩ = some (.slice h.np a h.nc) ∧ w'.cell? ⟨w.heap.size, 6, none⟩ = some (.slice h.lp b h.lc))
      (first | (with_reducible assumption) | (with_reducible exact ⟨‹_›, ‹_›, ‹_›⟩) | (with_reducible refine Hb.out _ ?_; repeat (first | (with_reducible exact Hid.out (by assumption)) | (with_reducible exact Below.refl _ _) | (with_reducible refine Below.drew ?_) | (with_reducible refine b_more ?_ _))))
      (first
        | (refine step_append_nums rfl _ _ 25 rfl W1.heap.size 3 i0 (.int .i64 0) 8 Tryz.underlying25 hi0 hi1 hi2 hi3 rfl (.slice (some ⟨W1.heap.size, 0, none⟩) 1 1) 1 (NetI.numV [t]) rfl OL.out (· < B) h.np a h.nc n.next rfl RN2.out A1 A2 DL.out.size ?_; intro v2 w2 hown2 hgrow2; have D2 := Lib.hid (DL.out.grown hgrow2 DL.out.size (fun j hj => (OL.out.lt j hj).1)); have O2 := Lib.hid hown2; clear hown2 hgrow2; have RL2 := Lib.hid (RL.out w2 D2.out); obtain ⟨x1, x2, x3⟩ := Hb.out _ D2.out)
        | (refine step_append_nums rfl _ _ 25 rfl W1.heap.size 3 i0 (.int .i64 0) 8 Tryz.underlying25 hi0 hi1 hi2 hi3 rfl v2 (1 + a) (NetI.numV [t] ++ NetI.numV n.next) rfl O2.out (· < B) h.lp b h.lc n.legal rfl RL2.out A3 A4 D2.out.size ?_; intro v3 w3 hown3 hgrow3; have D3 := Lib.hid (D2.out.grown hgrow3 D2.out.size (fun j hj => (O2.out.lt j hj).1)); have O3 : Hid (w3.ownsRow W1.heap.size 3 1 v3 X.length (NetI.numV X)) := Lib.hid (by rw [HLX.out, HX.out, numv_app, numv_app]; exact hown3); clear hown3 hgrow3))
    all_goals
      go_wp2_with fail
      go_meet
      obtain ⟨pa, pc, rfl⟩ := form1 O3.out
      exact ⟨_, _, rfl, O3, D3⟩
  case rest =>
    obtain ⟨pa, pc, rfl, hO, hD⟩ := hcut
    have hXL : Hid (X.length ≤ 2000001) := Lib.hid (by rw [HLX.out]; omega)
    clear RN RL OL DL RN2 Hb A1 A2 A3 A4 HX HLX
    obtain ⟨q1, q2, q3, q4, q5, q6, q7, q8, q9, q10, q11⟩ := HQ.out _ hD.out
    go_wp2_with fail
    clear q1 q2 q3 q4 q5 q6 q7 q8 q9 q10 q11
    go_loopw [3, 4] (fun u3 i wr => ∃ (k : Nat) (F : List Int), k ≤ mg ∧ i = .int .i64 k ∧ Hid (F = X ++ (n.goals.take k).map (·.2.2.2)) ∧ Hid (wr.ownsRow W1.heap.size 3 1 u3 F.length (NetI.numV F)) ∧ Hid (∀ x ∈ F, I64 x) ∧ Hid (∀ j, j < k → goalAt nr n.goals j = true) ∧ Hid (Below W1.heap.size W1 wr)) (fun _ i _ => mg - (intOf i).toNat)
    case atStart => exact ⟨0, X, Nat.zero_le _, rfl, Lib.hid (by simp), hO, IA, Lib.hid (fun j hj => by omega), hD⟩
    case round =>
      obtain ⟨k, F, hk, rfl, hF, hO, hI, hT, hD⟩ := hrel
      obtain ⟨va, vc, rfl⟩ := form1 hO.out
      obtain ⟨q1, q2, q3, q4, q5, q6, q7, q8, q9, q10, q11⟩ := HQ.out wr hD.out
      have hFl : F.length ≤ 5000000 := by have h := hF.out; have h2 := hXL.out; rw [h, List.length_append, List.length_map, List.length_take]; omega
      by_cases hlt : k < mg
      · obtain ⟨x, hx⟩ : ∃ x, n.goals[k]? = some x := ⟨n.goals[k]'(by rw [HG.out]; exact hlt), by simp⟩
        obtain ⟨vx, b, o, ep, hbB, ix, hcx⟩ := (NK.out wr hD.out).goals.at hx
        obtain ⟨q, d, ex⟩ : ∃ q d, vx = .slice q x.2.2.1.args.length d := ix.1.form
        subst ex
        have c0 : wr.cell? ⟨b, o + k * 5, none⟩ = some (.int .i64 x.1) := hcx 0 _ rfl
        have c1 : wr.cell? ⟨b, o + k * 5 + 1, none⟩ = some (.int .i64 x.2.1) := hcx 1 _ rfl
        have c2 : wr.cell? ⟨b, o + k * 5 + 2, none⟩ = some (.string x.2.2.1.nm) := hcx 2 _ rfl
        have c3 : wr.cell? ⟨b, o + k * 5 + 2 + 1, none⟩ = some (.slice q x.2.2.1.args.length d) := hcx 3 _ rfl
        have c4 : wr.cell? ⟨b, o + k * 5 + 4, none⟩ = some (.int .i64 x.2.2.2) := hcx 4 _ rfl
        have hBr := Nat.le_trans hB (KW.out wr hD.out).size
        have SX := Lib.hid ix.1
        have NX := Lib.hid ix.2.1
        obtain ⟨W3, hW3⟩ : ∃ z, z = wr.alloc (.cells #[.int .i64 x.1, .int .i64 x.2.1, .string x.2.2.1.nm, .slice q x.2.2.1.args.length d, .int .i64 x.2.2.2] 62) := ⟨_, rfl⟩
        have J3 : Hid (Below wr.heap.size wr W3) := Lib.hid (by rw [hW3]; exact below_alloc _ _)
        have H3 : Hid (Has W3 wr.heap.size #[.int .i64 x.1, .int .i64 x.2.1, .string x.2.2.1.nm, .slice q x.2.2.1.args.length d, .int .i64 x.2.2.2]) := Lib.hid (by rw [hW3]; exact Has.new _ _ _)
        have y4 : W3.cell? ⟨wr.heap.size, 4, none⟩ = some (.int .i64 x.2.2.2) := H3.out.cell 4
        have D3 := Lib.hid (next0 hD.out J3.out)
        have O3 := Lib.hid (own_below hO.out J3.out)
        have GX := Lib.hid (gates_next hx)
        have IXX : Hid (I64 x.2.2.2) := Lib.hid ix.2.2.2.2
        have TX := Lib.hid (ou_get hx)
        have j0 : (0 : Int) ≤ (k : Int) := by omega
        have j1 : (k : Int) < mg := by omega
        obtain ⟨G, hG⟩ : ∃ G, goalAt nr n.goals k = G := ⟨_, rfl⟩
        have BAD : Hid (G = false → R = false) := Lib.hid (fun e => FG.out k hlt (hG.trans e))
        have T2 : Hid (G = true → ∀ j, j < k + 1 → goalAt nr n.goals j = true) := Lib.hid (fun e j hj => by
          by_cases ej : j = k
          · subst ej
            exact hG.trans e
          · exact hT.out j (by omega))
        have IB : Hid (inB x.1 nr = (decide (0 ≤ x.1) && decide (x.1 < nr))) := Lib.hid rfl
        have AE : x.2.2.1.args.isEmpty = decide (x.2.2.1.args.length = 0) := by cases x.2.2.1.args <;> simp
        have BA : Hid (G = (inB x.1 nr && (inB x.2.1 101 && ((decide (x.2.2.1.nm = ⟨#[]⟩) && decide (x.2.2.1.args.length = 0)) && (decide (k = 0) || (decide ((ouAt n.goals (k - 1)).1 < x.1) || (decide ((ouAt n.goals (k - 1)).1 = x.1) && decide ((ouAt n.goals (k - 1)).2.1 < x.2.1)))))))) := Lib.hid (by rw [← hG, ← AE]; unfold goalAt; rw [TX.out]; rfl)
        have IV : Hid (inB x.2.1 101 = (decide (0 ≤ x.2.1) && decide (x.2.1 < 101))) := Lib.hid rfl
        clear AE
        generalize inB x.2.1 101 = iv at *
        clear hx ix hcx TX hG
        generalize inB x.1 nr = ib at *
        generalize x.1 = xr at *
        generalize x.2.1 = xv at *
        generalize x.2.2.1.nm = xn at *
        generalize x.2.2.1.args.length = xa at *
        generalize x.2.2.2 = xg at *
        have F2 : Hid (F ++ [xg] = X ++ (n.goals.take (k + 1)).map (·.2.2.2)) := Lib.hid (by rw [GX.out, hF.out, List.append_assoc])
        have I2 : Hid (∀ y ∈ F ++ [xg], I64 y) := Lib.hid (fun y hy => by
          rcases List.mem_append.1 hy with hy | hy
          · exact hI.out y hy
          · rw [List.mem_singleton.1 hy]
            exact IXX.out)
        have AA1 : F.length + 1 ≤ maxLen := by unfold maxLen; omega
        have AA2 : (F.length + 1) * 8 ≤ 140737488355328 := by omega
        have hz3 := D3.out.size
        have AA3 : W1.heap.size ≤ (W3.alloc (.cells #[.int .i64 xg] 3)).heap.size := by simp <;> omega
        go_upto_region 6 with fail
        rw [← hW3]
        clear hW3 c0 c1 c2 c3 c4 q1 q2 q3 q4 q5 q6 q7 q8 q9 q10 q11
        go_upto_region 7 with (at_builtin; go_must (refine wpList_append_lies _ rfl _ _ 25 rfl W1.heap.size 3 i0 (.int .i64 0) 1 8 Tryz.underlying25 hi0 hi1 hi2 hi3 rfl (by decide) (.slice va F.length vc) F.length (NetI.numV F) rfl (O3.out.alloc _) ⟨W3.heap.size, 0, none⟩ 1 1 [.int .i64 xg] rfl rfl (World.news_of_block (heap_alloc_new W3 _)) (one_int xg) (by decide) AA1 AA2 AA3 (W3.heap.size + 1) (by simp) ?_; intro g6 c6 w6 hown6 hgrow6 hat6 hlt6; have O6 : Hid (w6.ownsRow W1.heap.size 3 1 (.slice (some ⟨g6, 0, none⟩) (F.length + 1) c6) (F ++ [xg]).length (NetI.numV (F ++ [xg]))) := Lib.hid (by rw [List.length_append, NetI.numv_app]; exact hown6); have D6 := Lib.hid ((D3.out.alloc hz3 (.cells #[.int .i64 xg] 3)).grown hgrow6 (by simp <;> omega) (fun j hj => (O3.out.lt j hj).1)); have H6 := Lib.hid (has_grown (H3.out.alloc (.cells #[.int .i64 xg] 3)) hgrow6 (fun e => absurd (hO.out.lt _ e).2 (Nat.lt_irrefl _))); clear hown6 hgrow6 hat6 hlt6))
        clear y4 AA1 AA2 AA3 O3 H3 D3 J3 hz3 GX IXX
        obtain ⟨q1, q2, q3, q4, q5, q6, q7, q8, q9, q10, q11⟩ := HQ.out w6 D6.out
        have y0 := H6.out.cell 0
        have y1 := H6.out.cell 1
        have y2 := H6.out.cell 2
        have y3 : w6.cell? ⟨wr.heap.size, 2 + 1, none⟩ = some (.slice q xa d) := H6.out.cell 3
        have D := Lib.hid (KW.out _ D6.out)
        by_cases r0 : xr < 0
        · have e0 := Lib.hid (BAD.out (by rw [BA.out, IB.out, decide_eq_false (by omega)]; rfl))
          clear FG FS FT BA IB BAD T2 IV
          go_wp2_with fail
          go_ret
          exact ⟨by rw [e0.out]; rfl, D.out⟩
        by_cases r1 : (nr : Int) ≤ xr
        · have e0 := Lib.hid (BAD.out (by rw [BA.out, IB.out, decide_eq_false (show ¬ xr < (nr : Int) by omega), Bool.and_false, Bool.false_and]))
          clear FG FS FT BA IB BAD T2 IV
          go_wp2_with fail
          go_ret
          exact ⟨by rw [e0.out]; rfl, D.out⟩
        have hib : ib = true := by rw [IB.out, decide_eq_true (by omega), decide_eq_true (by omega)]; rfl
        have BA1 := Lib.hid (BA.out.trans (by rw [hib, Bool.true_and]))
        clear BA IB hib
        by_cases v0 : xv < 0
        · have e0 := Lib.hid (BAD.out (by rw [BA1.out, IV.out, decide_eq_false (by omega)]; rfl))
          clear FG FS FT BA1 BAD T2 IV
          go_wp2_with fail
          go_ret
          exact ⟨by rw [e0.out]; rfl, D.out⟩
        by_cases v1 : 100 < xv
        · have e0 := Lib.hid (BAD.out (by rw [BA1.out, IV.out, decide_eq_false (show ¬ xv < 101 by omega), Bool.and_false, Bool.false_and]))
          clear FG FS FT BA1 BAD T2 IV
          go_wp2_with fail
          go_ret
          exact ⟨by rw [e0.out]; rfl, D.out⟩
        have hiv : iv = true := by rw [IV.out, decide_eq_true (by omega), decide_eq_true (by omega)]; rfl
        have BA2 := Lib.hid (BA1.out.trans (by rw [hiv, Bool.true_and]))
        clear BA1 IV hiv
        by_cases hn : xn = ⟨#[]⟩
        rotate_left
        · have i1 : xn.toList.isEmpty = false := by rw [ByteArray.toList_eq]; cases hh : xn.data.toList with
            | nil => exact absurd (Go.WideShapes.bytes_inj (by simpa using hh)) hn
            | cons a r => rfl
          have i1b : (xn.toList != []) = true := by cases hh : xn.toList with
            | nil => rw [hh] at i1; cases i1
            | cons a r => rfl
          have e0 := Lib.hid (BAD.out (by rw [BA2.out, decide_eq_false hn]; rfl))
          clear FG FS FT BA2 BAD T2 hn
          go_wp2_with fail
          go_ret
          exact ⟨by rw [e0.out]; rfl, D.out⟩
        subst hn
        by_cases ha : xa = 0
        rotate_left
        · have ha' : (0 : Int) < (xa : Int) := by omega
          have ha'' : ((xa : Int) != 0) = true := by simp; omega
          have e0 := Lib.hid (BAD.out (by rw [BA2.out, decide_eq_false ha, Bool.and_false, Bool.false_and]))
          clear FG FS FT BA2 BAD T2
          go_wp2_with fail
          go_ret
          exact ⟨by rw [e0.out]; rfl, D.out⟩
        subst ha
        have BA3 : Hid (G = (decide (k = 0) || (decide ((ouAt n.goals (k - 1)).1 < xr) || (decide ((ouAt n.goals (k - 1)).1 = xr) && decide ((ouAt n.goals (k - 1)).2.1 < xv))))) := Lib.hid (by rw [BA2.out]; rfl)
        clear BA2
        by_cases hk0 : k = 0
        · have T3 := Lib.hid (T2.out (by rw [BA3.out, decide_eq_true hk0]; rfl))
          have j2 : ¬ (0 : Int) < (k : Int) := by omega
          have j2n : ¬ 0 < k := by omega
          have j2d : decide (0 < k) = false := decide_eq_false j2n
          clear FG FS FT BA3 BAD T2 hk0
          go_wp2_with fail
          go_roundw
          case rel =>
            first
            | (refine ⟨k + 1, F ++ [xg], by omega, by go_num, ?_⟩; (repeat' (first | (with_reducible assumption) | (with_reducible refine And.intro ?_ ?_))); done)
            | ((try rw [ep]); (repeat (apply Exists.intro)); refine ⟨?_, rfl⟩; refine ⟨k + 1, F ++ [xg], by omega, by go_num, ?_⟩; (repeat' (first | (with_reducible assumption) | (with_reducible refine And.intro ?_ ?_))); done)
            | ((repeat (apply Exists.intro)); refine ⟨?_, rfl⟩; refine ⟨k + 1, F ++ [xg], by omega, by go_num, ?_⟩; (repeat' (first | (with_reducible assumption) | (with_reducible refine And.intro ?_ ?_))); done)
            | ((try rw [ep]); (repeat (apply Exists.intro)); refine ⟨?_, ?_⟩; rotate_left; (focus (repeat' (first | rfl | refine And.intro ?_ ?_))); (try (refine ⟨k + 1, F ++ [xg], by omega, by go_num, ?_⟩; (repeat' (first | (with_reducible assumption) | (with_reducible refine And.intro ?_ ?_))))); (try (refine ⟨k + 1, by omega, by go_num, F ++ [xg], Lib.hid (by rw [← List.map_take]; exact F2.out), ?_⟩; (repeat' (first | (with_reducible assumption) | (with_reducible refine And.intro ?_ ?_))))); done)
          case measure => simp [intOf]; omega
        obtain ⟨y, hy⟩ : ∃ y, n.goals[k - 1]? = some y := ⟨n.goals[k - 1]'(by rw [HG.out]; omega), by simp⟩
        obtain ⟨vy, b', o', ep', _, iy, hcy⟩ := (NK.out w6 D6.out).goals.at hy
        obtain ⟨q', d', ey⟩ : ∃ q d, vy = .slice q y.2.2.1.args.length d := iy.1.form
        subst ey
        rw [ep] at ep'
        injection ep' with ep'
        injection ep' with e1 e2 _
        subst e1 e2
        obtain ⟨k1, hk1⟩ : ∃ k1, k1 = k - 1 := ⟨_, rfl⟩
        rw [← hk1] at hcy
        have c0 : w6.cell? ⟨b, o + k1 * 5, none⟩ = some (.int .i64 y.1) := hcy 0 _ rfl
        have c1 : w6.cell? ⟨b, o + k1 * 5 + 1, none⟩ = some (.int .i64 y.2.1) := hcy 1 _ rfl
        have c2 : w6.cell? ⟨b, o + k1 * 5 + 2, none⟩ = some (.string y.2.2.1.nm) := hcy 2 _ rfl
        have c3 : w6.cell? ⟨b, o + k1 * 5 + 2 + 1, none⟩ = some (.slice q' y.2.2.1.args.length d') := hcy 3 _ rfl
        have c4 : w6.cell? ⟨b, o + k1 * 5 + 4, none⟩ = some (.int .i64 y.2.2.2) := hcy 4 _ rfl
        have TY := Lib.hid (ou_get hy)
        obtain ⟨W5, hW5⟩ : ∃ z, z = w6.alloc (.cells #[.int .i64 y.1, .int .i64 y.2.1, .string y.2.2.1.nm, .slice q' y.2.2.1.args.length d', .int .i64 y.2.2.2] 62) := ⟨_, rfl⟩
        have K5 : Hid (Below w6.heap.size w6 W5) := Lib.hid (by rw [hW5]; exact below_alloc _ _)
        have H5 : Hid (Has W5 w6.heap.size #[.int .i64 y.1, .int .i64 y.2.1, .string y.2.2.1.nm, .slice q' y.2.2.1.args.length d', .int .i64 y.2.2.2]) := Lib.hid (by rw [hW5]; exact Has.new _ _ _)
        have H7 := Lib.hid (H6.out.step0 K5.out)
        have D5 := Lib.hid (next0 D6.out K5.out)
        have O5 := Lib.hid (own_below O6.out K5.out)
        have DD := Lib.hid (KW.out _ D5.out)
        have hB4 := Nat.le_trans hB (KW.out w6 D6.out).size
        have j2 : (0 : Int) < (k : Int) := by omega
        have j2n : 0 < k := by omega
        have j2d : decide (0 < k) = true := decide_eq_true j2n
        have j3 : (k : Int) - 1 = (k1 : Int) := by omega
        have j4 : (0 : Int) ≤ (k1 : Int) := by omega
        have j5 : (k1 : Int) < mg := by omega
        have j6 : IntKind.i64.wrap ((k : Int) - 1) = (k1 : Int) := by rw [j3, IntKind.wrap_i64]; omega
        have j7 : IntKind.i64.wrap (k1 : Int) = (k1 : Int) := by rw [IntKind.wrap_i64]; omega
        have BA4 : Hid (G = (decide (y.1 < xr) || (decide (y.1 = xr) && decide (y.2.1 < xv)))) := Lib.hid (by rw [BA3.out, decide_eq_false hk0, TY.out]; rfl)
        clear hy hk1 hk0 iy hcy BA3 TY FG FS FT
        generalize y.1 = yr at *
        generalize y.2.1 = yv at *
        generalize y.2.2.1.nm = yn at *
        generalize y.2.2.1.args.length = ya at *
        generalize y.2.2.2 = yg at *
        go_upto_region 11 with fail
        rw [← hW5]
        clear hW5 c0 c1 c2 c3 c4 y0 y1 y2 y3 q1 q2 q3 q4 q5 q6 q7 q8 q9 q10 q11
        obtain ⟨q1, q2, q3, q4, q5, q6, q7, q8, q9, q10, q11⟩ := HQ.out W5 D5.out
        have y0 := H7.out.cell 0
        have y1 := H7.out.cell 1
        have z0 := H5.out.cell 0
        have z1 := H5.out.cell 1
        by_cases g1 : xr < yr
        · have e0 := Lib.hid (BAD.out (by rw [BA4.out, decide_eq_false (show ¬ yr < xr by omega), decide_eq_false (show ¬ yr = xr by omega)]; rfl))
          clear BA4 BAD T2
          go_wp2_with fail
          go_ret
          exact ⟨by rw [e0.out]; rfl, DD.out⟩
        by_cases g2 : yr = xr
        · have BA5 : Hid (G = decide (yv < xv)) := Lib.hid (by rw [BA4.out, decide_eq_false (show ¬ yr < xr by omega), decide_eq_true g2]; rfl)
          have i2 : (yr == xr) = true := by simp [g2]
          clear BA4 g2
          by_cases g3 : xv ≤ yv
          · have e0 := Lib.hid (BAD.out (by rw [BA5.out, decide_eq_false (by omega)]))
            clear BA5 BAD T2
            go_wp2_with fail
            go_ret
            exact ⟨by rw [e0.out]; rfl, DD.out⟩
          have T3 := Lib.hid (T2.out (by rw [BA5.out, decide_eq_true (by omega)]))
          clear BA5 BAD T2
          go_wp2_with fail
          go_roundw
          case rel =>
            first
            | (refine ⟨k + 1, F ++ [xg], by omega, by go_num, ?_⟩; (repeat' (first | (with_reducible assumption) | (with_reducible refine And.intro ?_ ?_))); done)
            | ((try rw [ep]); (repeat (apply Exists.intro)); refine ⟨?_, rfl⟩; refine ⟨k + 1, F ++ [xg], by omega, by go_num, ?_⟩; (repeat' (first | (with_reducible assumption) | (with_reducible refine And.intro ?_ ?_))); done)
            | ((repeat (apply Exists.intro)); refine ⟨?_, rfl⟩; refine ⟨k + 1, F ++ [xg], by omega, by go_num, ?_⟩; (repeat' (first | (with_reducible assumption) | (with_reducible refine And.intro ?_ ?_))); done)
            | ((try rw [ep]); (repeat (apply Exists.intro)); refine ⟨?_, ?_⟩; rotate_left; (focus (repeat' (first | rfl | refine And.intro ?_ ?_))); (try (refine ⟨k + 1, F ++ [xg], by omega, by go_num, ?_⟩; (repeat' (first | (with_reducible assumption) | (with_reducible refine And.intro ?_ ?_))))); (try (refine ⟨k + 1, by omega, by go_num, F ++ [xg], Lib.hid (by rw [← List.map_take]; exact F2.out), ?_⟩; (repeat' (first | (with_reducible assumption) | (with_reducible refine And.intro ?_ ?_))))); done)
          case measure => simp [intOf]; omega
        have T3 := Lib.hid (T2.out (by rw [BA4.out, decide_eq_true (show yr < xr by omega)]; rfl))
        have i2 : (yr == xr) = false := by simp [g2]
        clear BA4 BAD T2 g2
        go_wp2_with fail
        go_roundw
        case rel =>
          first
          | (refine ⟨k + 1, F ++ [xg], by omega, by go_num, ?_⟩; (repeat' (first | (with_reducible assumption) | (with_reducible refine And.intro ?_ ?_))); done)
          | ((try rw [ep]); (repeat (apply Exists.intro)); refine ⟨?_, rfl⟩; refine ⟨k + 1, F ++ [xg], by omega, by go_num, ?_⟩; (repeat' (first | (with_reducible assumption) | (with_reducible refine And.intro ?_ ?_))); done)
          | ((repeat (apply Exists.intro)); refine ⟨?_, rfl⟩; refine ⟨k + 1, F ++ [xg], by omega, by go_num, ?_⟩; (repeat' (first | (with_reducible assumption) | (with_reducible refine And.intro ?_ ?_))); done)
          | ((try rw [ep]); (repeat (apply Exists.intro)); refine ⟨?_, ?_⟩; rotate_left; (focus (repeat' (first | rfl | refine And.intro ?_ ?_))); (try (refine ⟨k + 1, F ++ [xg], by omega, by go_num, ?_⟩; (repeat' (first | (with_reducible assumption) | (with_reducible refine And.intro ?_ ?_))))); (try (refine ⟨k + 1, by omega, by go_num, F ++ [xg], Lib.hid (by rw [← List.map_take]; exact F2.out), ?_⟩; (repeat' (first | (with_reducible assumption) | (with_reducible refine And.intro ?_ ?_))))); done)
        case measure => simp [intOf]; omega
      · obtain rfl : k = mg := by omega
        have FX : Hid (F = X ++ n.goals.map (·.2.2.2)) := Lib.hid (by rw [hF.out, List.take_of_length_le (Nat.le_of_eq HG.out)])
        have FT1 : Hid ((∀ j, j < ms → seeAt groundB nr n.sees j = true) → ∀ F2 : List Int, F2 = F ++ n.sees.map (·.2.2.2) → R = F2.all fun x => inB x ng) := Lib.hid (fun e F2 e2 => FT.out hT.out e F2 (by rw [e2, FX.out]))
        have hX0 : Hid (F.length ≤ 3000001) := Lib.hid (by rw [FX.out, List.length_append, List.length_map, HG.out]; have := hXL.out; omega)
        clear FT FG hT FX hXL hF hFl
        have hXL : Hid (F.length ≤ 3000001) := hX0
        generalize F = Y at *
        go_wp2_with fail
        clear q1 q2 q3 q4 q5 q6 q7 q8 q9 q10 q11
        go_loopw [3, 7] (fun u3 i wr => ∃ (k : Nat) (F : List Int), k ≤ ms ∧ i = .int .i64 k ∧ Hid (F = Y ++ (n.sees.take k).map (·.2.2.2)) ∧ Hid (wr.ownsRow W1.heap.size 3 1 u3 F.length (NetI.numV F)) ∧ Hid (∀ x ∈ F, I64 x) ∧ Hid (∀ j, j < k → seeAt groundB nr n.sees j = true) ∧ Hid (Below W1.heap.size W1 wr)) (fun _ i _ => ms - (intOf i).toNat)
        case atStart => exact ⟨0, Y, Nat.zero_le _, rfl, Lib.hid (by simp), hO, hI, Lib.hid (fun j hj => by omega), hD⟩
        case round =>
          obtain ⟨k, F, hk, rfl, hF, hO, hI, hT, hD⟩ := hrel
          obtain ⟨va, vc, rfl⟩ := form1 hO.out
          obtain ⟨q1, q2, q3, q4, q5, q6, q7, q8, q9, q10, q11⟩ := HQ.out wr hD.out
          have hFl : F.length ≤ 5000000 := by have h := hF.out; have h2 := hXL.out; rw [h, List.length_append, List.length_map, List.length_take]; omega
          by_cases hlt : k < ms
          · obtain ⟨x, hx⟩ : ∃ x, n.sees[k]? = some x := ⟨n.sees[k]'(by rw [HS.out]; exact hlt), by simp⟩
            obtain ⟨vx, b, o, ep, hbB, ix, hcx⟩ := (NK.out wr hD.out).sees.at hx
            obtain ⟨q, d, ex⟩ : ∃ q d, vx = .slice q x.2.2.1.args.length d := ix.1.form
            subst ex
            have c0 : wr.cell? ⟨b, o + k * 5, none⟩ = some (.int .i64 x.1) := hcx 0 _ rfl
            have c1 : wr.cell? ⟨b, o + k * 5 + 1, none⟩ = some (.int .i64 x.2.1) := hcx 1 _ rfl
            have c2 : wr.cell? ⟨b, o + k * 5 + 2, none⟩ = some (.string x.2.2.1.nm) := hcx 2 _ rfl
            have c3 : wr.cell? ⟨b, o + k * 5 + 2 + 1, none⟩ = some (.slice q x.2.2.1.args.length d) := hcx 3 _ rfl
            have c4 : wr.cell? ⟨b, o + k * 5 + 4, none⟩ = some (.int .i64 x.2.2.2) := hcx 4 _ rfl
            have hBr := Nat.le_trans hB (KW.out wr hD.out).size
            have SX := Lib.hid ix.1
            have NX := Lib.hid ix.2.1
            obtain ⟨W3, hW3⟩ : ∃ z, z = wr.alloc (.cells #[.int .i64 x.1, .int .i64 x.2.1, .string x.2.2.1.nm, .slice q x.2.2.1.args.length d, .int .i64 x.2.2.2] 62) := ⟨_, rfl⟩
            have J3 : Hid (Below wr.heap.size wr W3) := Lib.hid (by rw [hW3]; exact below_alloc _ _)
            have H3 : Hid (Has W3 wr.heap.size #[.int .i64 x.1, .int .i64 x.2.1, .string x.2.2.1.nm, .slice q x.2.2.1.args.length d, .int .i64 x.2.2.2]) := Lib.hid (by rw [hW3]; exact Has.new _ _ _)
            have y4 : W3.cell? ⟨wr.heap.size, 4, none⟩ = some (.int .i64 x.2.2.2) := H3.out.cell 4
            have D3 := Lib.hid (next0 hD.out J3.out)
            have O3 := Lib.hid (own_below hO.out J3.out)
            have GX := Lib.hid (gates_next hx)
            have IXX : Hid (I64 x.2.2.2) := Lib.hid ix.2.2.2.2
            have TX := Lib.hid (ou_get hx)
            have j0 : (0 : Int) ≤ (k : Int) := by omega
            have j1 : (k : Int) < ms := by omega
            obtain ⟨G, hG⟩ : ∃ G, seeAt groundB nr n.sees k = G := ⟨_, rfl⟩
            have BAD : Hid (G = false → R = false) := Lib.hid (fun e => FS.out k hlt (hG.trans e))
            have T2 : Hid (G = true → ∀ j, j < k + 1 → seeAt groundB nr n.sees j = true) := Lib.hid (fun e j hj => by
              by_cases ej : j = k
              · subst ej
                exact hG.trans e
              · exact hT.out j (by omega))
            have IB : Hid (inB x.1 nr = (decide (0 ≤ x.1) && decide (x.1 < nr))) := Lib.hid rfl
            have FRM : ∀ w', Below W1.heap.size W1 w' → ∀ b o, b < B → w'.cell? ⟨b, o, none⟩ = wr.cell? ⟨b, o, none⟩ := fun w' g b o hb => (g.cell (p := ⟨b, o, none⟩) (Nat.lt_of_lt_of_le hb (Nat.le_trans hB hzz))).trans (hD.out.cell (p := ⟨b, o, none⟩) (Nat.lt_of_lt_of_le hb (Nat.le_trans hB hzz))).symm
            have GG := Lib.hid (fun w' (g : Below W1.heap.size W1 w') => rg_any x.2.2.1 B w' (.slice q x.2.2.1.args.length d) (Nat.le_trans hB (KW.out w' g).size) NX.out (SX.out.frame fun b o (hb : b < B) => FRM w' g b o hb))
            obtain ⟨FF, hFF⟩ : ∃ FF, FF = (fun y => cmpT y x.2.2.1) := ⟨_, rfl⟩
            have HXF : Hid (∀ y sv w', Below W1.heap.size W1 w' → y.nm.size ≤ maxLen → SlIn (· < B) w' y.args sv → Calls Tryz.prog 84 #[.agg #[.string y.nm, sv], .agg #[.string x.2.2.1.nm, .slice q x.2.2.1.args.length d]] w' fun e w'' => e = .returned (.int .i64 (FF y)) ∧ Below w'.heap.size w' w'') := Lib.hid (fun y sv w' g hy hs => by rw [hFF]; exact rc_any y x.2.2.1 B w' sv (.slice q x.2.2.1.args.length d) (Nat.le_trans hB (KW.out w' g).size) hy NX.out hs (SX.out.frame fun b o (hb : b < B) => FRM w' g b o hb))
            have BA : Hid (G = (inB x.1 nr && (decide (x.2.1 = 0) && (groundB x.2.2.1 && (decide (k = 0) || (decide ((ouAt n.sees (k - 1)).1 < x.1) || (decide ((ouAt n.sees (k - 1)).1 = x.1) && decide (FF (ouAt n.sees (k - 1)).2.2.1 < 0)))))))) := Lib.hid (by rw [← hG, hFF]; unfold seeAt; rw [TX.out]; rfl)
            clear hFF FRM
            generalize groundB x.2.2.1 = gx at *
            clear hx ix hcx TX hG
            generalize inB x.1 nr = ib at *
            generalize x.1 = xr at *
            generalize x.2.1 = xv at *
            generalize x.2.2.1.nm = xn at *
            generalize x.2.2.1.args.length = xa at *
            generalize x.2.2.2 = xg at *
            have F2 : Hid (F ++ [xg] = Y ++ (n.sees.take (k + 1)).map (·.2.2.2)) := Lib.hid (by rw [GX.out, hF.out, List.append_assoc])
            have I2 : Hid (∀ y ∈ F ++ [xg], I64 y) := Lib.hid (fun y hy => by
              rcases List.mem_append.1 hy with hy | hy
              · exact hI.out y hy
              · rw [List.mem_singleton.1 hy]
                exact IXX.out)
            have AA1 : F.length + 1 ≤ maxLen := by unfold maxLen; omega
            have AA2 : (F.length + 1) * 8 ≤ 140737488355328 := by omega
            have hz3 := D3.out.size
            have AA3 : W1.heap.size ≤ (W3.alloc (.cells #[.int .i64 xg] 3)).heap.size := by simp <;> omega
            go_upto_region 17 with fail
            rw [← hW3]
            clear hW3 c0 c1 c2 c3 c4 q1 q2 q3 q4 q5 q6 q7 q8 q9 q10 q11
            go_upto_region 18 with (at_builtin; go_must (refine wpList_append_lies _ rfl _ _ 25 rfl W1.heap.size 3 i0 (.int .i64 0) 1 8 Tryz.underlying25 hi0 hi1 hi2 hi3 rfl (by decide) (.slice va F.length vc) F.length (NetI.numV F) rfl (O3.out.alloc _) ⟨W3.heap.size, 0, none⟩ 1 1 [.int .i64 xg] rfl rfl (World.news_of_block (heap_alloc_new W3 _)) (one_int xg) (by decide) AA1 AA2 AA3 (W3.heap.size + 1) (by simp) ?_; intro g6 c6 w6 hown6 hgrow6 hat6 hlt6; have O6 : Hid (w6.ownsRow W1.heap.size 3 1 (.slice (some ⟨g6, 0, none⟩) (F.length + 1) c6) (F ++ [xg]).length (NetI.numV (F ++ [xg]))) := Lib.hid (by rw [List.length_append, NetI.numv_app]; exact hown6); have D6 := Lib.hid ((D3.out.alloc hz3 (.cells #[.int .i64 xg] 3)).grown hgrow6 (by simp <;> omega) (fun j hj => (O3.out.lt j hj).1)); have H6 := Lib.hid (has_grown (H3.out.alloc (.cells #[.int .i64 xg] 3)) hgrow6 (fun e => absurd (hO.out.lt _ e).2 (Nat.lt_irrefl _))); clear hown6 hgrow6 hat6 hlt6))
            clear y4 AA1 AA2 AA3 O3 H3 D3 J3 hz3 GX IXX
            obtain ⟨q1, q2, q3, q4, q5, q6, q7, q8, q9, q10, q11⟩ := HQ.out w6 D6.out
            have y0 := H6.out.cell 0
            have y1 := H6.out.cell 1
            have y2 := H6.out.cell 2
            have y3 : w6.cell? ⟨wr.heap.size, 2 + 1, none⟩ = some (.slice q xa d) := H6.out.cell 3
            have D := Lib.hid (KW.out _ D6.out)
            by_cases r0 : xr < 0
            · have e0 := Lib.hid (BAD.out (by rw [BA.out, IB.out, decide_eq_false (by omega)]; rfl))
              clear FS FT1 BA IB BAD T2 HXF GG
              go_wp2_with fail
              go_ret
              exact ⟨by rw [e0.out]; rfl, D.out⟩
            by_cases r1 : (nr : Int) ≤ xr
            · have e0 := Lib.hid (BAD.out (by rw [BA.out, IB.out, decide_eq_false (show ¬ xr < (nr : Int) by omega), Bool.and_false, Bool.false_and]))
              clear FS FT1 BA IB BAD T2 HXF GG
              go_wp2_with fail
              go_ret
              exact ⟨by rw [e0.out]; rfl, D.out⟩
            have hib : ib = true := by rw [IB.out, decide_eq_true (by omega), decide_eq_true (by omega)]; rfl
            have BA1 := Lib.hid (BA.out.trans (by rw [hib, Bool.true_and]))
            clear BA IB hib
            by_cases hv : xv = 0
            rotate_left
            · have i1 : (xv != 0) = true := by simp [hv]
              have e0 := Lib.hid (BAD.out (by rw [BA1.out, decide_eq_false hv]; rfl))
              clear FS FT1 BA1 BAD T2 HXF GG hv
              go_wp2_with fail
              go_ret
              exact ⟨by rw [e0.out]; rfl, D.out⟩
            subst hv
            have BA2 : Hid (G = (gx && (decide (k = 0) || (decide ((ouAt n.sees (k - 1)).1 < xr) || (decide ((ouAt n.sees (k - 1)).1 = xr) && decide (FF (ouAt n.sees (k - 1)).2.2.1 < 0)))))) := Lib.hid (by rw [BA1.out]; rfl)
            have G4 := Lib.hid (GG.out w6 D6.out)
            clear BA1 GG
            go_wp2_with fail
            refine G4.out.mono ?_
            rintro e w7 ⟨rfl, g7⟩
            have D7 := Lib.hid (next0 D6.out g7)
            have H8 := Lib.hid (H6.out.step0 g7)
            have O8 := Lib.hid (own_below O6.out g7)
            have DW7 := Lib.hid (KW.out _ D7.out)
            clear g7 y0 y1 y2 y3 G4 q1 q2 q3 q4 q5 q6 q7 q8 q9 q10 q11
            obtain ⟨q1, q2, q3, q4, q5, q6, q7, q8, q9, q10, q11⟩ := HQ.out w7 D7.out
            cases gx
            · have e0 := Lib.hid (BAD.out (by rw [BA2.out]; rfl))
              clear FS FT1 BA2 BAD T2 HXF
              go_wp2_with fail
              go_ret
              exact ⟨by rw [e0.out]; rfl, DW7.out⟩
            have BA3 : Hid (G = (decide (k = 0) || (decide ((ouAt n.sees (k - 1)).1 < xr) || (decide ((ouAt n.sees (k - 1)).1 = xr) && decide (FF (ouAt n.sees (k - 1)).2.2.1 < 0))))) := Lib.hid (by rw [BA2.out]; rfl)
            clear BA2
            by_cases hk0 : k = 0
            · have T3 := Lib.hid (T2.out (by rw [BA3.out, decide_eq_true hk0]; rfl))
              have j2 : ¬ (0 : Int) < (k : Int) := by omega
              have j2n : ¬ 0 < k := by omega
              have j2d : decide (0 < k) = false := decide_eq_false j2n
              clear FS FT1 BA3 BAD T2 hk0 HXF
              go_wp2_with fail
              go_roundw
              case rel =>
                first
                | (refine ⟨k + 1, F ++ [xg], by omega, by go_num, ?_⟩; (repeat' (first | (with_reducible assumption) | (with_reducible refine And.intro ?_ ?_))); done)
                | ((try rw [ep]); (repeat (apply Exists.intro)); refine ⟨?_, rfl⟩; refine ⟨k + 1, F ++ [xg], by omega, by go_num, ?_⟩; (repeat' (first | (with_reducible assumption) | (with_reducible refine And.intro ?_ ?_))); done)
                | ((repeat (apply Exists.intro)); refine ⟨?_, rfl⟩; refine ⟨k + 1, F ++ [xg], by omega, by go_num, ?_⟩; (repeat' (first | (with_reducible assumption) | (with_reducible refine And.intro ?_ ?_))); done)
                | ((try rw [ep]); (repeat (apply Exists.intro)); refine ⟨?_, ?_⟩; rotate_left; (focus (repeat' (first | rfl | refine And.intro ?_ ?_))); (try (refine ⟨k + 1, F ++ [xg], by omega, by go_num, ?_⟩; (repeat' (first | (with_reducible assumption) | (with_reducible refine And.intro ?_ ?_))))); (try (refine ⟨k + 1, by omega, by go_num, F ++ [xg], Lib.hid (by rw [← List.map_take]; exact F2.out), ?_⟩; (repeat' (first | (with_reducible assumption) | (with_reducible refine And.intro ?_ ?_))))); done)
              case measure => simp [intOf]; omega
            obtain ⟨y, hy⟩ : ∃ y, n.sees[k - 1]? = some y := ⟨n.sees[k - 1]'(by rw [HS.out]; omega), by simp⟩
            obtain ⟨vy, b', o', ep', _, iy, hcy⟩ := (NK.out w7 D7.out).sees.at hy
            obtain ⟨q', d', ey⟩ : ∃ q d, vy = .slice q y.2.2.1.args.length d := iy.1.form
            subst ey
            rw [ep] at ep'
            injection ep' with ep'
            injection ep' with e1 e2 _
            subst e1 e2
            obtain ⟨k1, hk1⟩ : ∃ k1, k1 = k - 1 := ⟨_, rfl⟩
            rw [← hk1] at hcy
            have c0 : w7.cell? ⟨b, o + k1 * 5, none⟩ = some (.int .i64 y.1) := hcy 0 _ rfl
            have c1 : w7.cell? ⟨b, o + k1 * 5 + 1, none⟩ = some (.int .i64 y.2.1) := hcy 1 _ rfl
            have c2 : w7.cell? ⟨b, o + k1 * 5 + 2, none⟩ = some (.string y.2.2.1.nm) := hcy 2 _ rfl
            have c3 : w7.cell? ⟨b, o + k1 * 5 + 2 + 1, none⟩ = some (.slice q' y.2.2.1.args.length d') := hcy 3 _ rfl
            have c4 : w7.cell? ⟨b, o + k1 * 5 + 4, none⟩ = some (.int .i64 y.2.2.2) := hcy 4 _ rfl
            have TY := Lib.hid (ou_get hy)
            obtain ⟨W5, hW5⟩ : ∃ z, z = w7.alloc (.cells #[.int .i64 y.1, .int .i64 y.2.1, .string y.2.2.1.nm, .slice q' y.2.2.1.args.length d', .int .i64 y.2.2.2] 62) := ⟨_, rfl⟩
            have K5 : Hid (Below w7.heap.size w7 W5) := Lib.hid (by rw [hW5]; exact below_alloc _ _)
            have H5 : Hid (Has W5 w7.heap.size #[.int .i64 y.1, .int .i64 y.2.1, .string y.2.2.1.nm, .slice q' y.2.2.1.args.length d', .int .i64 y.2.2.2]) := Lib.hid (by rw [hW5]; exact Has.new _ _ _)
            have H7 := Lib.hid (H8.out.step0 K5.out)
            have D5 := Lib.hid (next0 D7.out K5.out)
            have O5 := Lib.hid (own_below O8.out K5.out)
            have DD := Lib.hid (KW.out _ D5.out)
            have hB4 := Nat.le_trans hB (KW.out w7 D7.out).size
            have j2 : (0 : Int) < (k : Int) := by omega
            have j2n : 0 < k := by omega
            have j2d : decide (0 < k) = true := decide_eq_true j2n
            have j3 : (k : Int) - 1 = (k1 : Int) := by omega
            have j4 : (0 : Int) ≤ (k1 : Int) := by omega
            have j5 : (k1 : Int) < ms := by omega
            have j6 : IntKind.i64.wrap ((k : Int) - 1) = (k1 : Int) := by rw [j3, IntKind.wrap_i64]; omega
            have j7 : IntKind.i64.wrap (k1 : Int) = (k1 : Int) := by rw [IntKind.wrap_i64]; omega
            have CC := Lib.hid (HXF.out y.2.2.1 (.slice q' y.2.2.1.args.length d') W5 D5.out iy.2.1 (iy.1.frame fun b o (hb : b < B) => K5.out.cell (p := ⟨b, o, none⟩) (Nat.lt_of_lt_of_le hb hB4)))
            have BA4 : Hid (G = (decide (y.1 < xr) || (decide (y.1 = xr) && decide (FF y.2.2.1 < 0)))) := Lib.hid (by rw [BA3.out, decide_eq_false hk0, TY.out]; rfl)
            clear hy hk1 hk0 iy hcy BA3 TY FS FT1 HXF
            generalize FF y.2.2.1 = cc at *
            generalize y.1 = yr at *
            generalize y.2.1 = yv at *
            generalize y.2.2.1.nm = yn at *
            generalize y.2.2.1.args.length = ya at *
            generalize y.2.2.2 = yg at *
            go_upto_region 22 with fail
            rw [← hW5]
            clear hW5 c0 c1 c2 c3 c4 q1 q2 q3 q4 q5 q6 q7 q8 q9 q10 q11
            obtain ⟨q1, q2, q3, q4, q5, q6, q7, q8, q9, q10, q11⟩ := HQ.out W5 D5.out
            have y0 := H7.out.cell 0
            have y2 := H7.out.cell 2
            have y3 : W5.cell? ⟨wr.heap.size, 2 + 1, none⟩ = some (.slice q xa d) := H7.out.cell 3
            have z0 := H5.out.cell 0
            have z2 := H5.out.cell 2
            have z3 : W5.cell? ⟨w7.heap.size, 2 + 1, none⟩ = some (.slice q' ya d') := H5.out.cell 3
            by_cases g1 : xr < yr
            · have e0 := Lib.hid (BAD.out (by rw [BA4.out, decide_eq_false (show ¬ yr < xr by omega), decide_eq_false (show ¬ yr = xr by omega)]; rfl))
              clear BA4 BAD T2
              go_wp2_with fail
              go_ret
              exact ⟨by rw [e0.out]; rfl, DD.out⟩
            by_cases g2 : yr = xr
            · have BA5 : Hid (G = decide (cc < 0)) := Lib.hid (by rw [BA4.out, decide_eq_false (show ¬ yr < xr by omega), decide_eq_true g2]; rfl)
              have i2 : (yr == xr) = true := by simp [g2]
              clear BA4 g2
              go_wp2_with fail
              refine CC.out.mono ?_
              rintro e w9 ⟨rfl, g9⟩
              have D9 := Lib.hid (next0 D5.out g9)
              have O9 := Lib.hid (own_below O5.out g9)
              have DW9 := Lib.hid (KW.out _ D9.out)
              clear g9 y0 y2 y3 z0 z2 z3
              by_cases hc : 0 ≤ cc
              · have e0 := Lib.hid (BAD.out (by rw [BA5.out, decide_eq_false (by omega)]))
                clear BA5 BAD T2
                go_wp2_with fail
                go_ret
                exact ⟨by rw [e0.out]; rfl, DW9.out⟩
              have T3 := Lib.hid (T2.out (by rw [BA5.out, decide_eq_true (by omega)]))
              clear BA5 BAD T2
              go_wp2_with fail
              go_roundw
              case rel =>
                first
                | (refine ⟨k + 1, F ++ [xg], by omega, by go_num, ?_⟩; (repeat' (first | (with_reducible assumption) | (with_reducible refine And.intro ?_ ?_))); done)
                | ((try rw [ep]); (repeat (apply Exists.intro)); refine ⟨?_, rfl⟩; refine ⟨k + 1, F ++ [xg], by omega, by go_num, ?_⟩; (repeat' (first | (with_reducible assumption) | (with_reducible refine And.intro ?_ ?_))); done)
                | ((repeat (apply Exists.intro)); refine ⟨?_, rfl⟩; refine ⟨k + 1, F ++ [xg], by omega, by go_num, ?_⟩; (repeat' (first | (with_reducible assumption) | (with_reducible refine And.intro ?_ ?_))); done)
                | ((try rw [ep]); (repeat (apply Exists.intro)); refine ⟨?_, ?_⟩; rotate_left; (focus (repeat' (first | rfl | refine And.intro ?_ ?_))); (try (refine ⟨k + 1, F ++ [xg], by omega, by go_num, ?_⟩; (repeat' (first | (with_reducible assumption) | (with_reducible refine And.intro ?_ ?_))))); (try (refine ⟨k + 1, by omega, by go_num, F ++ [xg], Lib.hid (by rw [← List.map_take]; exact F2.out), ?_⟩; (repeat' (first | (with_reducible assumption) | (with_reducible refine And.intro ?_ ?_))))); done)
              case measure => simp [intOf]; omega
            have T3 := Lib.hid (T2.out (by rw [BA4.out, decide_eq_true (show yr < xr by omega)]; rfl))
            have i2 : (yr == xr) = false := by simp [g2]
            clear BA4 BAD T2 g2
            go_wp2_with fail
            go_roundw
            case rel =>
              first
              | (refine ⟨k + 1, F ++ [xg], by omega, by go_num, ?_⟩; (repeat' (first | (with_reducible assumption) | (with_reducible refine And.intro ?_ ?_))); done)
              | ((try rw [ep]); (repeat (apply Exists.intro)); refine ⟨?_, rfl⟩; refine ⟨k + 1, F ++ [xg], by omega, by go_num, ?_⟩; (repeat' (first | (with_reducible assumption) | (with_reducible refine And.intro ?_ ?_))); done)
              | ((repeat (apply Exists.intro)); refine ⟨?_, rfl⟩; refine ⟨k + 1, F ++ [xg], by omega, by go_num, ?_⟩; (repeat' (first | (with_reducible assumption) | (with_reducible refine And.intro ?_ ?_))); done)
              | ((try rw [ep]); (repeat (apply Exists.intro)); refine ⟨?_, ?_⟩; rotate_left; (focus (repeat' (first | rfl | refine And.intro ?_ ?_))); (try (refine ⟨k + 1, F ++ [xg], by omega, by go_num, ?_⟩; (repeat' (first | (with_reducible assumption) | (with_reducible refine And.intro ?_ ?_))))); (try (refine ⟨k + 1, by omega, by go_num, F ++ [xg], Lib.hid (by rw [← List.map_take]; exact F2.out), ?_⟩; (repeat' (first | (with_reducible assumption) | (with_reducible refine And.intro ?_ ?_))))); done)
            case measure => simp [intOf]; omega
          · obtain rfl : k = ms := by omega
            have FX : Hid (F = Y ++ n.sees.map (·.2.2.2)) := Lib.hid (by rw [hF.out, List.take_of_length_le (Nat.le_of_eq HS.out)])
            have RT := Lib.hid (FT1.out hT.out F (by rw [FX.out]))
            have RX := Lib.hid (own_row hO.out hI.out)
            clear FT1 FX hF hT hI hX0 FS
            have RAT : Hid ((∀ j y, F[j]? = some y → inB y ng = true) → R = true) := Lib.hid (fun hall => by
              rw [RT.out, List.all_eq_true]
              intro y hy
              obtain ⟨j, hj⟩ := List.mem_iff_getElem?.1 hy
              exact hall j y hj)
            have RAF : Hid (∀ j y, F[j]? = some y → inB y ng = false → R = false) := Lib.hid (fun j y hy e => by
              rw [RT.out, List.all_eq_false]
              exact ⟨y, List.mem_of_getElem? hy, by rw [e]; decide⟩)
            clear RT
            obtain ⟨Wz, hWz⟩ : ∃ Wz, Wz = wr := ⟨_, rfl⟩
            have DZ := Lib.hid hD.out
            have RZ := Lib.hid RX.out
            rw [← hWz] at DZ RZ
            have DS : Hid (Below Wz.heap.size Wz wr) := Lib.hid (by rw [hWz]; exact Below.refl _ _)
            clear hWz RX hO
            generalize hfl : F.length = fl at *
            have HFL := Lib.hid hfl
            clear hfl
            go_wp2_with fail
            clear q1 q2 q3 q4 q5 q6 q7 q8 q9 q10 q11
            go_loopw [10] (fun i wr => ∃ k3 : Nat, k3 ≤ fl ∧ i = .int .i64 k3 ∧ Hid (∀ j y, j < k3 → F[j]? = some y → inB y ng = true) ∧ Hid (Below Wz.heap.size Wz wr)) (fun i _ => fl - (intOf i).toNat)
            case atStart => exact ⟨0, Nat.zero_le _, rfl, Lib.hid (fun j y hj => by omega), DS⟩
            case round =>
              clear hD
              obtain ⟨k3, hk3, rfl, hT, hD⟩ := hrel
              obtain ⟨q1, q2, q3, q4, q5, q6, q7, q8, q9, q10, q11⟩ := HQ.out wr (next0 DZ.out hD.out)
              have DW := Lib.hid (KW.out wr (next0 DZ.out hD.out))
              by_cases hlt : k3 < fl
              · obtain ⟨y, hy⟩ : ∃ y, F[k3]? = some y := ⟨F[k3]'(by rw [HFL.out]; exact hlt), by simp⟩
                obtain ⟨g, o2, ep2, eb, _, e4⟩ := RZ.out.at hy
                have c1 : wr.cell? ⟨g, o2 + k3, none⟩ = some (.int .i64 y) := (hD.out.cell (p := ⟨g, o2 + k3, none⟩) eb.2).trans (by have := e4 0 _ rfl; simpa [KN] using this)
                have j1 : (k3 : Int) < fl := by omega
                have j0 : (0 : Int) ≤ (k3 : Int) := by omega
                have IB : Hid (inB y ng = (decide (0 ≤ y) && decide (y < ng))) := Lib.hid rfl
                have R1 := Lib.hid (RAF.out k3 y hy)
                have T2 : Hid (inB y ng = true → ∀ j z, j < k3 + 1 → F[j]? = some z → inB z ng = true) := Lib.hid (fun e j z hj hz => by
                  by_cases ej : j = k3
                  · subst ej
                    rw [hy] at hz
                    injection hz with hz
                    rw [← hz]
                    exact e
                  · exact hT.out j z (by omega) hz)
                clear e4 hy RAT RAF
                generalize inB y ng = iy at *
                go_upto_region 27 with fail
                by_cases y0 : y < 0
                · have e0 := Lib.hid (R1.out (by rw [IB.out, decide_eq_false (by omega)]; rfl))
                  clear IB R1 T2
                  go_quiet (fail)
                  go_wp2_with fail
                  go_ret
                  exact ⟨by rw [e0.out]; rfl, KW.out _ (next0 DZ.out (below_drewN hD.out _))⟩
                by_cases y1 : (ng : Int) ≤ y
                · have e0 := Lib.hid (R1.out (by rw [IB.out, decide_eq_false (show ¬ y < (ng : Int) by omega), Bool.and_false]))
                  clear IB R1 T2
                  go_quiet (fail)
                  go_wp2_with fail
                  go_ret
                  exact ⟨by rw [e0.out]; rfl, KW.out _ (next0 DZ.out (below_drewN hD.out _))⟩
                have T3 := Lib.hid (T2.out (by rw [IB.out, decide_eq_true (by omega), decide_eq_true (by omega)]; rfl))
                clear IB R1 T2
                go_quiet (fail)
                go_wp2_with fail
                go_roundw
                case rel => exact ⟨k3 + 1, by omega, by go_num, T3, Lib.hid (below_drewN hD.out _)⟩
                case measure => simp [intOf]; omega
              · obtain rfl : k3 = fl := by omega
                have e0 := Lib.hid (RAT.out (fun j y hy => hT.out j y (by have := (List.getElem?_eq_some_iff.1 hy).1; have := HFL.out; omega) hy))
                clear RAT RAF
                go_wp2_with fail
                go_ret
                exact ⟨by rw [e0.out]; rfl, DW.out⟩
end NetX
end Go.Proofs.YtgbbpliihglijaaGreat
