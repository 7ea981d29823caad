/- evaluate.Goals in full. Conditions: those of Values. Made by gnGl.py. -/
import Derived.Test.YtkfeliogglnngaaGreatNetOu
namespace Go.Proofs.YtkfeliogglnngaaGreat
open Go Go.RowKit
namespace NetGl
open Kit LexM TermM TermI TermH NetM NetN NetK NetA NetC NetI NetMk NetNu NetOk NetEv NetBo NetMb NetS NetVa NetVv NetTr NetGo NetDo NetDf NetCp NetOu
/-- The goal values of a role. -/
def golE (g : Tm → Bool) (st : List Int) (n : Nt) (r : Int) : List Int := (ouP g st [] n r n.goals).map (·.2.1)
theorem take_more {α : Type} {L : List α} {k : Nat} {x : α} (h : L[k]? = some x) : L.take (k + 1) = L.take k ++ [x] := by
  rw [List.take_add_one, h]
  rfl
set_option maxRecDepth 100000 in
set_option maxHeartbeats 6400000 in
theorem goals_any (n : Nt) (h : Nh) (st : List Int) (r : Int) (B : Nat) (w : World) (vs : Value) (hB : B ≤ w.heap.size) (k : NetIn (· < B) w n h) (hz : SzN n) (hs : RowE KN (· < B) w st vs) :
    Calls Tryz.prog 13 #[.agg #[.slice h.gp n.gates.length h.gc, .slice h.rp n.roles.length h.rc, .slice h.bp n.bases.length h.bc, .slice h.ip n.inputs.length h.ic, .slice h.ap n.initial.length h.ac, .slice h.np n.next.length h.nc, .slice h.lp n.legal.length h.lc, .slice h.op n.goals.length h.oc, .slice h.sp n.sees.length h.sc, .int .i64 n.last, .bool n.hid], vs, .int .i64 r] w (NumE (golE groundB st n r) (ouE groundB st [] n r) w) := by
  obtain ⟨i0, hi0, hi1, hi2, hi3⟩ := info_parts Tryz.infoN
  obtain ⟨W1, hW1⟩ : ∃ z, z = w.alloc (.cells #[.slice h.gp n.gates.length h.gc, .slice h.rp n.roles.length h.rc, .slice h.bp n.bases.length h.bc, .slice h.ip n.inputs.length h.ic, .slice h.ap n.initial.length h.ac, .slice h.np n.next.length h.nc, .slice h.lp n.legal.length h.lc, .slice h.op n.goals.length h.oc, .slice h.sp n.sees.length h.sc, .int .i64 n.last, .bool n.hid] 28) := ⟨_, rfl⟩
  have K1 : Hid (Below w.heap.size w W1) := Lib.hid (by rw [hW1]; exact below_alloc _ _)
  have H1 : Hid (Has W1 w.heap.size (netC n h)) := Lib.hid (by rw [hW1]; exact Has.new _ _ _)
  have hzz := K1.out.size
  have KW := Lib.hid (fun w' (q : Below W1.heap.size W1 w') => show Below w.heap.size w w' from K1.out.trans (q.mono hzz))
  have NK := Lib.hid (fun w' (q : Below W1.heap.size W1 w') => k.deep (KW.out w' q) hB)
  have HQ := Lib.hid (fun w' (q : Below W1.heap.size W1 w') => hasN (H1.out.step0 q))
  have C1 := Lib.hid (outputs_any n h st [] n.goals h.op h.oc r B W1 vs (.slice none 0 0) (Nat.le_trans hB hzz) (NK.out W1 (Below.refl _ _)) hz (hs.keep fun b o (hb : b < B) => K1.out.cell (p := ⟨b, o, none⟩) (Nat.lt_of_lt_of_le hb hB)) (RowE.nil _ _) (NK.out W1 (Below.refl _ _)).goals hz.goals (fun o => o.goals))
  have PL : Hid ((ouP groundB st [] n r n.goals).length ≤ 1000000) := Lib.hid (by
    have := hz.goals
    unfold ouP
    split
    · exact Nat.le_trans (List.length_filter_le _ _) this
    · exact Nat.zero_le _)
  have GE : Hid (golE groundB st n r = (ouP groundB st [] n r n.goals).map (·.2.1)) := Lib.hid rfl
  obtain ⟨psl, csl, rfl⟩ := hs.form
  clear k hz hs
  obtain ⟨q1, q2, q3, q4, q5, q6, q7, q8, q9, q10, q11⟩ := HQ.out W1 (Below.refl _ _)
  generalize golE groundB st n r = P at *
  generalize ouP groundB st [] n r n.goals = PO at *
  generalize ouE groundB st [] n r = er at *
  go_enter Tryz.func13, Tryz.ntmps13
  go_upto_region 1 with fail
  rw [← hW1]
  clear hW1
  go_wp2_with fail
  refine C1.out.mono ?_
  rintro e w4 ⟨R, g, pg, cg, hRP, rfl, hIN, hpg, hC, g4⟩
  have D4 := Lib.hid (next0 (Below.refl W1.heap.size W1) g4)
  have DD4 := Lib.hid (KW.out _ D4.out)
  have hlm := PL.out
  have HRP := Lib.hid hRP
  have HIN := Lib.hid hIN
  have HPG := Lib.hid hpg
  have HC := Lib.hid hC
  have NSo := Lib.hid (nil_own w4.heap.size w4 3 1)
  have RL : Hid (R.length = PO.length) := Lib.hid (by rw [← hRP, List.length_map])
  clear g4 C1 hRP hIN hpg hC PL q1 q2 q3 q4 q5 q6 q7 q8 q9 q10 q11
  generalize hg0 : w4.heap.size = g0 at *
  have HG0 := Lib.hid hg0
  clear hg0
  generalize hm : PO.length = m at *
  have HM := Lib.hid hm
  clear hm
  go_wp2_with fail
  go_loopw [10, 24] (fun u3 i wr => ∃ (k : Nat) (F : List Int), k ≤ m ∧ i = .int .i64 k ∧ Hid (F = (R.take k).map (·.1.2.1)) ∧ Hid (wr.ownsRow g0 3 1 u3 F.length (NetI.numV F)) ∧ Hid (∀ x ∈ F, I64 x) ∧ Hid (Below g0 w4 wr)) (fun _ i _ => m - (intOf i).toNat)
  case atStart => exact ⟨0, [], Nat.zero_le _, rfl, Lib.hid rfl, NSo, Lib.hid (fun x hx => by cases hx), Lib.hid (Below.refl _ _)⟩
  case round =>
    obtain ⟨k, F, hkn, rfl, hF, hO, hI, hD⟩ := hrel
    generalize hwo : wr = wo at *
    clear hwo
    obtain ⟨va, vc, rfl⟩ := form1 hO.out
    have hFl : F.length ≤ k := by rw [hF.out, List.length_map, List.length_take]; omega
    have DW : Hid (Below w4.heap.size w4 wo) := Lib.hid (by rw [HG0.out]; exact hD.out)
    have hzr : g0 ≤ wo.heap.size := by have h1 := HG0.out; have h2 := hD.out.size; omega
    by_cases hlt : k < m
    · obtain ⟨⟨⟨r1, v1, t1, g1⟩, a1⟩, hx⟩ : ∃ x, R[k]? = some x := ⟨R[k]'(by rw [RL.out]; exact hlt), by simp⟩
      have hin := HIN.out _ (List.mem_of_getElem? hx)
      obtain ⟨pa, ca, ea⟩ := hin.1.form
      dsimp only at ea
      subst ea
      obtain ⟨hpe, hgl⟩ := HPG.out (by omega)
      subst hpe
      have hv1 : I64 v1 := hin.2.2.2.1
      have hcl := fun (j : Nat) u hu => (DW.out.cell (p := ⟨g, k * 5 + j, none⟩) (show g < w4.heap.size from HG0.out ▸ hgl)).trans (HC.out k _ hx j u hu)
      have c0 := hcl 0 _ rfl
      have c1 := hcl 1 _ rfl
      have c2 := hcl 2 _ rfl
      have c3 := hcl 3 _ rfl
      have c4 := hcl 4 _ rfl
      rw [Nat.add_zero] at c0
      dsimp only at c0 c1 c2 c3 c4
      have j0 : (0 : Int) ≤ (k : Int) := by omega
      have j1 : (k : Int) < m := by omega
      obtain ⟨W3, hW3⟩ : ∃ z, z = wo.alloc (.cells #[.int .i64 r1, .int .i64 v1, .string t1.nm, .slice pa t1.args.length ca, .int .i64 g1] 74) := ⟨_, rfl⟩
      have H3 : Has W3 wo.heap.size #[.int .i64 r1, .int .i64 v1, .string t1.nm, .slice pa t1.args.length ca, .int .i64 g1] := by rw [hW3]; exact Has.new _ _ _
      have hO3 : Hid (W3.ownsRow g0 3 1 (.slice va F.length vc) F.length (NetI.numV F)) := Lib.hid (by rw [hW3]; exact hO.out.alloc _)
      have hD3 : Hid (Below g0 w4 W3) := Lib.hid (by rw [hW3]; exact hD.out.alloc hzr _)
      have hz3 : g0 ≤ W3.heap.size := by rw [hW3]; simp; omega
      have y1 := H3.cell 1
      have F2 : Hid (F ++ [v1] = (R.take (k + 1)).map (·.1.2.1)) := Lib.hid (by rw [take_more hx, List.map_append, ← hF.out]; rfl)
      have I2 : Hid (∀ y ∈ F ++ [v1], I64 y) := Lib.hid (fun y hy => by
        rcases List.mem_append.1 hy with hy | hy
        · exact hI.out y hy
        · rw [List.mem_singleton.1 hy]
          exact hv1)
      have AA1 : F.length + 1 ≤ maxLen := by unfold maxLen; omega
      have AA2 : (F.length + 1) * 8 ≤ 140737488355328 := by omega
      have AA3 : g0 ≤ (W3.alloc (.cells #[.int .i64 v1] 3)).heap.size := by simp <;> omega
      clear hx hin hcl H3 hv1
      go_upto_region 6 with fail
      rw [← hW3]
      clear hW3 c0 c1 c2 c3 c4
      go_wp2_with (at_builtin; go_must (refine wpList_append_lies _ rfl _ _ 25 rfl g0 3 i0 (.int .i64 0) 1 8 Tryz.underlying25 hi0 hi1 hi2 hi3 rfl (by decide) (.slice va F.length vc) F.length (NetI.numV F) rfl (hO3.out.alloc _) ⟨W3.heap.size, 0, none⟩ 1 1 [.int .i64 v1] rfl rfl (World.news_of_block (heap_alloc_new W3 _)) (one_int v1) (by decide) AA1 AA2 AA3 (W3.heap.size + 1) (by simp) ?_; intro g6 c6 w6 hown6 hgrow6 hat6 hlt6; have O6 : Hid (w6.ownsRow g0 3 1 (.slice (some ⟨g6, 0, none⟩) (F.length + 1) c6) (F ++ [v1]).length (NetI.numV (F ++ [v1]))) := Lib.hid (by rw [List.length_append, NetI.numv_app]; exact hown6); have D6 := Lib.hid ((hD3.out.alloc hz3 (.cells #[.int .i64 v1] 3)).grown hgrow6 (by simp <;> omega) (fun j hj => (hO3.out.lt j hj).1)); clear hown6 hgrow6 hat6 hlt6))
      go_roundw
      case rel => first | exact ⟨k + 1, F ++ [v1], by omega, by go_num, F2, O6, I2, D6⟩ | ((repeat (apply Exists.intro)); refine ⟨?_, rfl⟩; exact ⟨k + 1, F ++ [v1], by omega, by go_num, F2, O6, I2, D6⟩)
      case measure => simp [intOf] <;> omega
    · obtain rfl : k = m := by omega
      have R7 := Lib.hid (own_row hO.out hI.out)
      have FE : Hid (P = F) := Lib.hid (by rw [hF.out, GE.out, ← HRP.out, List.map_map, List.take_of_length_le (by rw [RL.out]; exact Nat.le_refl _)]; rfl)
      have DF : Hid (Below w.heap.size w wo) := Lib.hid (next0 DD4.out DW.out)
      have hzw : w.heap.size ≤ g0 := by have h1 := HG0.out; have h2 := DD4.out.size; omega
      have R8 : Hid (RowE KN (fun b => w.heap.size ≤ b ∧ b < wo.heap.size) wo F (.slice va F.length vc)) := Lib.hid (R7.out.wide fun b hb => ⟨by omega, hb.2⟩)
      go_wp2_with fail
      refine bodyPost_ret (v := .tuple #[.slice va F.length vc, .int .i64 er]) (by simp [results, Tryz.results13, go_sem]) rfl ?_
      rw [FE.out]
      exact NumE.mk R8.out DF.out
end NetGl
end Go.Proofs.YtkfeliogglnngaaGreat
