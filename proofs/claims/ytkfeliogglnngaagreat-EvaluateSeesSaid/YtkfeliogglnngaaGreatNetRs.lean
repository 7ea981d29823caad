/- The reference's Sees. Conditions: those of its Values. Made by gnRs.py. -/
import Derived.Test.YtkfeliogglnngaaGreatNetRg
import Derived.Test.YtkfeliogglnngaaGreatNetSe
namespace Go.Proofs.YtkfeliogglnngaaGreat
open Go Go.RowKit
namespace NetRs
open Kit LexM TermM TermI TermN TermU TermH NetM NetN NetK NetA NetC NetI NetMk NetNu NetOk NetEv NetBo NetMb NetS NetVa NetVv NetTr NetVr NetGo NetDo NetDf NetCp NetOu NetGl NetSe NetRg
theorem see_no {g : Tm → Bool} {st ip : List Int} {n : Nt} {r : Int} (h : ouE g st ip n r ≠ 0) : seeE g st ip n r = [] := by unfold seeE ouP; rw [if_neg h]; rfl
theorem see_ok {g : Tm → Bool} {st ip : List Int} {n : Nt} {r : Int} (h : ouE g st ip n r = 0) : seeE g st ip n r = (n.sees.filter (holdB r (valsN st ip n))).map (·.2.2.1) := by unfold seeE ouP; rw [if_pos h]; rfl
theorem flatL_one (L : List (Tm × Value)) (t : Tm) (v : Value) : flatL (L ++ [(t, v)]) = flatL L ++ [.string t.nm, v] := by simp [flatL]
theorem row_nil (base : Nat) (w : World) : w.ownsRow base 70 2 (.slice none 0 0) ([] : List (Tm × Value)).length (flatL []) := (Own.nil base w).1
theorem row_form {base : Nat} {w : World} {L : List (Tm × Value)} {v : Value} (h : w.ownsRow base 70 2 v L.length (flatL L)) : ∃ a c, v = .slice a L.length c := by
  rcases h.2 with ⟨e, hz⟩ | ⟨g, cap, cur, e, _⟩
  · exact ⟨none, 0, by rw [e, hz]⟩
  · exact ⟨_, cap, e⟩
theorem row_slin {base B : Nat} {w : World} {L : List (Tm × Value)} {v : Value} (h1 : w.ownsRow base 70 2 v L.length (flatL L)) (h3 : ∀ x ∈ L, SlIn (· < B) w x.1.args x.2 ∧ x.1.nm.size ≤ maxLen) (hB : B ≤ w.heap.size) : SlIn (· < w.heap.size) w (L.map (·.1)) v := by
  have hl := h1.lt
  have key : ∀ (i : Nat) (t : Tm), (L.map (·.1))[i]? = some t → ∃ x : Tm × Value, L[i]? = some x ∧ x.1 = t := by
    intro i t ht
    rw [List.getElem?_map] at ht
    obtain ⟨x, a, b⟩ := Option.map_eq_some_iff.1 ht
    exact ⟨x, a, b⟩
  rcases h1.2 with ⟨rfl, hz⟩ | ⟨g, cap, cur, rfl, e2, e3, e4, e5, e6, e7⟩
  · have : L = [] := List.eq_nil_of_length_eq_zero hz
    subst this
    exact SlIn.none _ _
  · have hm : (L.map (·.1)).length = L.length := by simp
    rw [← hm]
    refine .mk _ cap _ (fun i => (L.getD i (default, undef)).2) g 0 (fun _ => ⟨rfl, (hl g rfl).2⟩) (fun h => by cases h) (by rw [hm]; exact e4) e5 (fun i t ht => ?_) (fun i t ht => ?_)
    · obtain ⟨x, hx, rfl⟩ := key i t ht
      have hi : i < L.length := (List.getElem?_eq_some_iff.1 hx).1
      obtain ⟨f1, f2⟩ := flatL_get L i x hx
      rw [Nat.zero_add]
      exact ⟨(h1.cellAt _ (by omega)).trans f1, by rw [h1.cellAt _ (by omega), f2]; simp [List.getD, hx], (h3 x (List.mem_of_getElem? hx)).2⟩
    · obtain ⟨x, hx, rfl⟩ := key i t ht
      have := (h3 x (List.mem_of_getElem? hx)).1.weaken fun b (hk : b < B) => (Nat.lt_of_lt_of_le hk hB : b < w.heap.size)
      simpa [List.getD, hx] using this
set_option maxRecDepth 100000 in
set_option maxHeartbeats 6400000 in
theorem rsees_any (n : Nt) (h : Nh) (st ip : List Int) (r : Int) (B : Nat) (w : World) (vs vi : Value) (hB : B ≤ w.heap.size) (k : NetIn (· < B) w n h) (hz : SzN n) (hs : RowE KN (· < B) w st vs) (hi : RowE KN (· < B) w ip vi) :
    Calls Tryz.prog 45 #[.agg #[.slice h.gp n.gates.length h.gc, .slice h.rp n.roles.length h.rc, .slice h.bp n.bases.length h.bc, .slice h.ip n.inputs.length h.ic, .slice h.ap n.initial.length h.ac, .slice h.np n.next.length h.nc, .slice h.lp n.legal.length h.lc, .slice h.op n.goals.length h.oc, .slice h.sp n.sees.length h.sc, .int .i64 n.last, .bool n.hid], vs, vi, .int .i64 r] w (TsE (seeE groundB st ip n r) (ouE groundB st ip n r) w) := by
  obtain ⟨i0, hi0, hi1, hi2, hi3⟩ := info_parts Tryz.info28
  obtain ⟨W1, hW1⟩ : ∃ z, z = w.alloc (.cells #[.slice h.gp n.gates.length h.gc, .slice h.rp n.roles.length h.rc, .slice h.bp n.bases.length h.bc, .slice h.ip n.inputs.length h.ic, .slice h.ap n.initial.length h.ac, .slice h.np n.next.length h.nc, .slice h.lp n.legal.length h.lc, .slice h.op n.goals.length h.oc, .slice h.sp n.sees.length h.sc, .int .i64 n.last, .bool n.hid] 28) := ⟨_, rfl⟩
  have K1 : Hid (Below w.heap.size w W1) := Lib.hid (by rw [hW1]; exact below_alloc _ _)
  have H1 : Hid (Has W1 w.heap.size (netC n h)) := Lib.hid (by rw [hW1]; exact Has.new _ _ _)
  have hzz := K1.out.size
  have KW := Lib.hid (fun w' (q : Below W1.heap.size W1 w') => show Below w.heap.size w w' from K1.out.trans (q.mono hzz))
  have NK := Lib.hid (fun w' (q : Below W1.heap.size W1 w') => k.deep (KW.out w' q) hB)
  have HQ := Lib.hid (fun w' (q : Below W1.heap.size W1 w') => hasN (H1.out.step0 q))
  have C1 := Lib.hid (rvalues_any n h st ip B W1 vs vi (Nat.le_trans hB hzz) (NK.out W1 (Below.refl _ _)) hz (hs.keep fun b o (hb : b < B) => K1.out.cell (p := ⟨b, o, none⟩) (Nat.lt_of_lt_of_le hb hB)) (hi.keep fun b o (hb : b < B) => K1.out.cell (p := ⟨b, o, none⟩) (Nat.lt_of_lt_of_le hb hB)))
  have E1 : Hid (evE groundB st ip n ≠ 0 → ouE groundB st ip n r = evE groundB st ip n ∧ seeE groundB st ip n r = []) := Lib.hid (fun e => ⟨ou_ev e, see_no (by rw [ou_ev e]; exact e)⟩)
  have E2 : Hid (evE groundB st ip n = 0 → inB r n.roles.length = false → ouE groundB st ip n r = 8 ∧ seeE groundB st ip n r = []) := Lib.hid (fun e e2 => ⟨ou_role e e2, see_no (by rw [ou_role e e2]; decide)⟩)
  have E3 : Hid (evE groundB st ip n = 0 → inB r n.roles.length = true → ouE groundB st ip n r = 0 ∧ seeE groundB st ip n r = (n.sees.filter (holdB r (evV groundB st ip n))).map (·.2.2.1) ∧ EOk st ip n ∧ (evV groundB st ip n).length = n.gates.length) := Lib.hid (fun e e2 => ⟨ou_ok e e2, by rw [see_ok (ou_ok e e2), evv_ok e], eok e, by rw [evv_ok e, valsn_len]⟩)
  obtain ⟨L, hL1, hL2⟩ := k.sees
  have IL := Lib.hid (fun w' (q : Below W1.heap.size W1 w') i x (hx : L[i]? = some x) => (hL2.keep (w' := w') fun b o (hb : b < B) => (KW.out w' q).cell (p := ⟨b, o, none⟩) (Nat.lt_of_lt_of_le hb hB)).at hx)
  have HL1 := Lib.hid hL1
  have hgm := hz.seen
  have IN0 : Hid (∀ x ∈ L, SlIn (· < B) w x.1.2.2.1.args x.2 ∧ x.1.2.2.1.nm.size ≤ maxLen) := Lib.hid (fun x hx => by
    obtain ⟨p', c', _, _, _, _, h4, _⟩ := hL2
    exact ⟨(h4 x hx).1, (h4 x hx).2.1⟩)
  obtain ⟨psl, csl, rfl⟩ := hs.form
  obtain ⟨pil, cil, rfl⟩ := hi.form
  clear k hz hs hi hL1 hL2
  obtain ⟨q1, q2, q3, q4, q5, q6, q7, q8, q9, q10, q11⟩ := HQ.out W1 (Below.refl _ _)
  generalize seeE groundB st ip n r = P at *
  generalize ouE groundB st ip n r = eo at *
  generalize evV groundB st ip n = S at *
  generalize evE groundB st ip n = er at *
  go_enter Tryz.func45, Tryz.ntmps45
  go_upto_region 1 with fail
  rw [← hW1]
  clear hW1
  go_wp2_with fail
  refine C1.out.mono ?_
  rintro e w4 ⟨v4, rfl, hv4, g4⟩
  have D4 := Lib.hid (next0 (Below.refl W1.heap.size W1) g4)
  have DD4 := Lib.hid (KW.out _ D4.out)
  clear g4 C1 q1 q2 q3 q4 q5 q6 q7 q8 q9 q10 q11
  obtain ⟨p4, c4, rfl⟩ := hv4.form
  obtain ⟨q1, q2, q3, q4, q5, q6, q7, q8, q9, q10, q11⟩ := HQ.out w4 D4.out
  by_cases hc : er = 0
  rotate_left
  · have e0 := Lib.hid (E1.out hc)
    have i1 : (er != 0) = true := by simp [hc]
    clear E1 E2 E3 hc
    go_wp2_with fail
    refine bodyPost_ret (v := .tuple #[.slice none 0 0, .int .i64 er]) (by simp [results, Tryz.results45, go_sem]) rfl ?_
    rw [e0.out.1, e0.out.2]
    exact TsE.mk (SlIn.none _ _) DD4.out
  have i1 : (er != 0) = false := by simp [hc]
  have F2 := Lib.hid (E2.out hc)
  have F3 := Lib.hid (E3.out hc)
  have HER := Lib.hid hc
  clear E1 E2 E3 hc
  by_cases e2 : inB r n.roles.length = true
  rotate_left
  · have e3 : inB r n.roles.length = false := by simpa using e2
    have e0 := Lib.hid (F2.out e3)
    unfold inB at e3
    clear F2 F3 e2
    by_cases r0 : r < 0
    · clear e3
      go_wp2_with fail
      refine bodyPost_ret (v := .tuple #[.slice none 0 0, .int .i64 8]) (by simp [results, Tryz.results45, go_sem]) rfl ?_
      rw [e0.out.1, e0.out.2]
      exact TsE.mk (SlIn.none _ _) DD4.out
    have r1 : (n.roles.length : Int) ≤ r := by
      rw [decide_eq_true (by omega), Bool.true_and, decide_eq_false_iff_not] at e3
      omega
    clear e3
    generalize n.roles.length = nr at *
    go_wp2_with fail
    refine bodyPost_ret (v := .tuple #[.slice none 0 0, .int .i64 8]) (by simp [results, Tryz.results45, go_sem]) rfl ?_
    rw [e0.out.1, e0.out.2]
    exact TsE.mk (SlIn.none _ _) DD4.out
  have EE := Lib.hid (F3.out e2)
  have rr : 0 ≤ r ∧ r < (n.roles.length : Int) := by
    unfold inB at e2
    rw [Bool.and_eq_true, decide_eq_true_eq, decide_eq_true_eq] at e2
    exact e2
  have r0 : ¬ r < 0 := by omega
  have r1 : ¬ (n.roles.length : Int) ≤ r := by omega
  have HG2 := Lib.hid (EE.out.2.2.1.net.sees)
  have IV := Lib.hid (readb hv4 (fun b hb => hb.2))
  have NSo := Lib.hid (row_nil w4.heap.size w4)
  clear F2 F3 e2 rr hv4
  have HLL : Hid (L.length = n.sees.length) := Lib.hid (by rw [← HL1.out, List.length_map])
  generalize n.roles.length = nr at *
  generalize h.sp = pl at *
  generalize hgn : n.sees.length = m at *
  have HM := Lib.hid hgn
  clear hgn
  generalize hg0 : w4.heap.size = g0 at *
  have HG0 := Lib.hid hg0
  clear hg0
  generalize hls : S.length = ls at *
  have HLS := Lib.hid hls
  clear hls
  go_wp2_with fail
  clear q1 q2 q3 q4 q5 q6 q7 q8 q9 q10 q11
  go_loopw [12, 13] (fun u3 i wr => ∃ (k : Nat) (F : List (Tm × Value)), k ≤ m ∧ i = .int .i64 k ∧ Hid (F = ((L.take k).filter fun x => holdB r S x.1).map fun x => (x.1.2.2.1, x.2)) ∧ Hid (wr.ownsRow g0 70 2 u3 F.length (flatL F)) ∧ Hid (Below g0 w4 wr)) (fun _ i _ => m - (intOf i).toNat)
  case atStart => exact ⟨0, [], Nat.zero_le _, rfl, Lib.hid rfl, NSo, Lib.hid (Below.refl _ _)⟩
  case round =>
    obtain ⟨k, F, hkn, rfl, hF, hO, hD⟩ := hrel
    generalize hwo : wr = wo at *
    clear hwo
    obtain ⟨va, vc, rfl⟩ := row_form hO.out
    have hFl : F.length ≤ k := by
      rw [hF.out, List.length_map]
      exact Nat.le_trans (List.length_filter_le _ _) (by rw [List.length_take]; omega)
    have DW : Hid (Below W1.heap.size W1 wo) := Lib.hid (next0 D4.out (by rw [HG0.out]; exact hD.out))
    obtain ⟨q1, q2, q3, q4, q5, q6, q7, q8, q9, q10, q11⟩ := HQ.out wo DW.out
    have hzr : g0 ≤ wo.heap.size := by have h1 := HG0.out; have h2 := hD.out.size; omega
    by_cases hlt : k < m
    · obtain ⟨⟨⟨r1', v1, t1, g1⟩, a1⟩, hx⟩ : ∃ x, L[k]? = some x := ⟨L[k]'(by rw [HLL.out]; exact hlt), by simp⟩
      have hx2 : n.sees[k]? = some (r1', v1, t1, g1) := by rw [← HL1.out, List.getElem?_map, hx]; rfl
      obtain ⟨gb, ob, hpe, _, hin, hcl⟩ := IL.out wo DW.out k _ hx
      subst hpe
      obtain ⟨pa, ca, ea⟩ := hin.1.form
      dsimp only at ea
      subst ea
      have c0 := hcl 0 _ rfl
      have c5 := hcl 2 _ rfl
      have c6 := hcl 3 _ rfl
      have c4 := hcl 4 _ rfl
      rw [Nat.add_zero] at c0
      dsimp only [KO] at c0 c4 c5 c6
      have hgr := HG2.out _ (List.mem_of_getElem? hx2)
      dsimp only at hgr
      obtain ⟨t, rfl⟩ : ∃ t : Nat, g1 = (t : Int) := ⟨g1.toNat, by omega⟩
      obtain ⟨b, hb⟩ : ∃ b, S[t]? = some b := ⟨_, List.getElem?_eq_getElem (by have h1 := HLS.out; have h2 := EE.out.2.2.2; omega)⟩
      obtain ⟨g', o', rfl, c2⟩ := IV.out t b hb wo hD.out
      have VX : Hid (vAt S (t : Int) = b) := Lib.hid (v_get (by rw [Int.toNat_natCast]; exact hb))
      have j0 : (0 : Int) ≤ (k : Int) := by omega
      have j1 : (k : Int) < m := by omega
      have j2 : (0 : Int) ≤ (t : Int) := by omega
      have j3 : (t : Int) < ls := by have h2 := EE.out.2.2.2; omega
      have KN := Lib.hid (kept_next (p := fun x => holdB r S x.1) hx)
      have HB : Hid (holdB r S (((r1', v1, t1, (t : Int)), Value.slice pa t1.args.length ca) : Ou × Value).1 = (decide (r1' = r) && b)) := Lib.hid (by show holdB r S (r1', v1, t1, (t : Int)) = _; unfold holdB; rw [VX.out])
      clear hx hx2 hb hin hcl hgr VX
      by_cases hrr : r1' = r ∧ b = true
      · obtain ⟨h1, rfl⟩ := hrr
        have i2 : (r1' == r) = true := by simp [h1]
        have F2 : Hid (F ++ [(t1, Value.slice pa t1.args.length ca)] = ((L.take (k + 1)).filter fun x => holdB r S x.1).map fun x => (x.1.2.2.1, x.2)) := Lib.hid (by rw [KN.out, HB.out, h1, decide_eq_true rfl, Bool.true_and, if_pos rfl, List.map_append, ← hF.out]; rfl)
        have AA1 : F.length + 1 ≤ maxLen := by unfold maxLen; omega
        have AA2 : (F.length + 1) * 40 ≤ 140737488355328 := by omega
        have AA3 : g0 ≤ (wo.alloc (.cells #[.string t1.nm, .slice pa t1.args.length ca] 70)).heap.size := by simp <;> omega
        clear KN HB h1
        go_wp2_with (at_builtin; go_must (refine wpList_append_lies _ rfl _ _ 23 rfl g0 70 i0 (.agg #[.string ⟨#[]⟩, .slice none 0 0]) 2 40 Tryz.underlying23 hi0 hi1 hi2 hi3 rfl (by decide) (.slice va F.length vc) F.length (flatL F) rfl (hO.out.alloc _) ⟨wo.heap.size, 0, none⟩ 1 1 [.string t1.nm, .slice pa t1.args.length ca] rfl rfl (news2 _ _ _ _) (one2 _ _ _ _) (by decide) AA1 AA2 AA3 (wo.heap.size + 1) (by simp) ?_; intro g6 c6 w6 hown6 hgrow6 hat6 hlt6; have O6 : Hid (w6.ownsRow g0 70 2 (.slice (some ⟨g6, 0, none⟩) (F.length + 1) c6) (F ++ [(t1, Value.slice pa t1.args.length ca)]).length (flatL (F ++ [(t1, Value.slice pa t1.args.length ca)]))) := Lib.hid (by rw [List.length_append, flatL_one]; exact hown6); have D6 := Lib.hid ((hD.out.alloc hzr (.cells #[.string t1.nm, .slice pa t1.args.length ca] 70)).grown hgrow6 (by simp <;> omega) (fun j hj => (hO.out.lt j hj).1)); clear hown6 hgrow6 hat6 hlt6))
        go_roundw
        case rel => first | exact ⟨k + 1, F ++ [(t1, Value.slice pa t1.args.length ca)], by omega, by go_num, F2, O6, D6⟩ | ((repeat (apply Exists.intro)); refine ⟨?_, rfl⟩; exact ⟨k + 1, F ++ [(t1, Value.slice pa t1.args.length ca)], by omega, by go_num, F2, O6, D6⟩)
        case measure => simp [intOf] <;> omega
      · have F2 : Hid (F = ((L.take (k + 1)).filter fun x => holdB r S x.1).map fun x => (x.1.2.2.1, x.2)) := Lib.hid (by
          rw [KN.out, HB.out]
          have : (decide (r1' = r) && b) = false := by
            cases b
            · exact Bool.and_false _
            · rw [Bool.and_true, decide_eq_false_iff_not]
              exact fun e => hrr ⟨e, rfl⟩
          rw [this, if_neg (by decide), List.append_nil]
          exact hF.out)
        clear KN HB
        by_cases h1 : r1' = r
        · have i2 : (r1' == r) = true := by simp [h1]
          obtain rfl : b = false := by
            cases b
            · rfl
            · exact absurd ⟨h1, rfl⟩ hrr
          clear hrr h1
          go_wp2_with fail
          go_roundw
          case rel => first | exact ⟨k + 1, F, by omega, by go_num, F2, hO, hD⟩ | ((repeat (apply Exists.intro)); refine ⟨?_, rfl⟩; exact ⟨k + 1, F, by omega, by go_num, F2, hO, hD⟩)
          case measure => simp [intOf] <;> omega
        · have i2 : (r1' == r) = false := by simp [h1]
          clear hrr h1
          go_wp2_with fail
          go_roundw
          case rel => first | exact ⟨k + 1, F, by omega, by go_num, F2, hO, hD⟩ | ((repeat (apply Exists.intro)); refine ⟨?_, rfl⟩; exact ⟨k + 1, F, by omega, by go_num, F2, hO, hD⟩)
          case measure => simp [intOf] <;> omega
    · obtain rfl : k = m := by omega
      have FE : Hid (P = F.map (·.1)) := Lib.hid (by
        rw [hF.out, EE.out.2.1, ← HL1.out, List.take_of_length_le (by rw [HLL.out]; exact Nat.le_refl _), List.filter_map, List.map_map, List.map_map]
        rfl)
      have DF : Hid (Below w.heap.size w wo) := Lib.hid (KW.out _ DW.out)
      have R8 : Hid (SlIn (· < wo.heap.size) wo (F.map (·.1)) (.slice va F.length vc)) := Lib.hid (row_slin hO.out (B := B) (fun x hx => by
        rw [hF.out] at hx
        obtain ⟨y, hy, rfl⟩ := List.mem_map.1 hx
        have hi := IN0.out y (List.mem_of_mem_take (List.mem_filter.1 hy).1)
        exact ⟨hi.1.frame fun b o (hb : b < B) => DF.out.cell (p := ⟨b, o, none⟩) (Nat.lt_of_lt_of_le hb hB), hi.2⟩) (Nat.le_trans hB DF.out.size))
      go_wp2_with fail
      refine bodyPost_ret (v := .tuple #[.slice va F.length vc, .int .i64 0]) (by simp [results, Tryz.results45, go_sem]) rfl ?_
      rw [FE.out, EE.out.1]
      exact TsE.mk R8.out DF.out
end NetRs
end Go.Proofs.YtkfeliogglnngaaGreat
