/- evaluate.Sees. Conditions: those of Values. Made by gnSe.py. -/
import Derived.Test.YtkfeliogglnngaaGreatNetGl
import Derived.Test.YtkfeliogglnngaaGreatNetCt
namespace Go.Proofs.YtkfeliogglnngaaGreat
open Go Go.RowKit
namespace NetSe
open Kit LexM TermM TermI TermN TermU TermH NetM NetN NetK NetA NetC NetI NetMk NetNu NetOk NetEv NetBo NetMb NetS NetVa NetVv NetTr NetGo NetDo NetDf NetCp NetOu NetGl
/-- The percepts of a role. -/
def seeE (g : Tm → Bool) (st ip : List Int) (n : Nt) (r : Int) : List Tm := (ouP g st ip n r n.sees).map (·.2.2.1)
/-- Terms and an error. -/
def TsE (L : List Tm) (er : Int) (w : World) (e : Ending) (w' : World) : Prop := ∃ v, e = .returned (.tuple #[v, .int .i64 er]) ∧ SlIn (· < w'.heap.size) w' L v ∧ Below w.heap.size w w'
theorem TsE.mk {L : List Tm} {er : Int} {w w' : World} {v : Value} (h : SlIn (· < w'.heap.size) w' L v) (h2 : Below w.heap.size w w') : TsE L er w (.returned (.tuple #[v, .int .i64 er])) w' := ⟨v, rfl, h, h2⟩
set_option maxRecDepth 100000 in
set_option maxHeartbeats 6400000 in
theorem sees_any (n : Nt) (h : Nh) (st ip : List Int) (r : Int) (B : Nat) (w : World) (vs vi : Value) (hB : B ≤ w.heap.size) (k : NetIn (· < B) w n h) (hz : SzN n) (hs : RowE KN (· < B) w st vs) (hi : RowE KN (· < B) w ip vi) :
    Calls Tryz.prog 16 #[.agg #[.slice h.gp n.gates.length h.gc, .slice h.rp n.roles.length h.rc, .slice h.bp n.bases.length h.bc, .slice h.ip n.inputs.length h.ic, .slice h.ap n.initial.length h.ac, .slice h.np n.next.length h.nc, .slice h.lp n.legal.length h.lc, .slice h.op n.goals.length h.oc, .slice h.sp n.sees.length h.sc, .int .i64 n.last, .bool n.hid], vs, vi, .int .i64 r] w (TsE (seeE groundB st ip n r) (ouE groundB st ip n r) w) := by
  obtain ⟨i0, hi0, hi1, hi2, hi3⟩ := info_parts Tryz.info28
  obtain ⟨W1, hW1⟩ : ∃ z, z = w.alloc (.cells #[.slice h.gp n.gates.length h.gc, .slice h.rp n.roles.length h.rc, .slice h.bp n.bases.length h.bc, .slice h.ip n.inputs.length h.ic, .slice h.ap n.initial.length h.ac, .slice h.np n.next.length h.nc, .slice h.lp n.legal.length h.lc, .slice h.op n.goals.length h.oc, .slice h.sp n.sees.length h.sc, .int .i64 n.last, .bool n.hid] 28) := ⟨_, rfl⟩
  have K1 : Hid (Below w.heap.size w W1) := Lib.hid (by rw [hW1]; exact below_alloc _ _)
  have H1 : Hid (Has W1 w.heap.size (netC n h)) := Lib.hid (by rw [hW1]; exact Has.new _ _ _)
  have hzz := K1.out.size
  have KW := Lib.hid (fun w' (q : Below W1.heap.size W1 w') => show Below w.heap.size w w' from K1.out.trans (q.mono hzz))
  have NK := Lib.hid (fun w' (q : Below W1.heap.size W1 w') => k.deep (KW.out w' q) hB)
  have HQ := Lib.hid (fun w' (q : Below W1.heap.size W1 w') => hasN (H1.out.step0 q))
  have C1 := Lib.hid (outputs_any n h st ip n.sees h.sp h.sc r B W1 vs vi (Nat.le_trans hB hzz) (NK.out W1 (Below.refl _ _)) hz (hs.keep fun b o (hb : b < B) => K1.out.cell (p := ⟨b, o, none⟩) (Nat.lt_of_lt_of_le hb hB)) (hi.keep fun b o (hb : b < B) => K1.out.cell (p := ⟨b, o, none⟩) (Nat.lt_of_lt_of_le hb hB)) (NK.out W1 (Below.refl _ _)).sees hz.seen (fun o => o.sees))
  have PL : Hid ((ouP groundB st ip n r n.sees).length ≤ 1000000) := Lib.hid (by
    have := hz.seen
    unfold ouP
    split
    · exact Nat.le_trans (List.length_filter_le _ _) this
    · exact Nat.zero_le _)
  have GE : Hid (seeE groundB st ip n r = (ouP groundB st ip n r n.sees).map (·.2.2.1)) := Lib.hid rfl
  have SZ0 : Hid (∀ x ∈ ouP groundB st ip n r n.sees, sizeT x.2.2.1 ≤ 1000000) := Lib.hid (fun x hx => by
    unfold ouP at hx
    split at hx
    · exact hz.sees x (List.mem_filter.1 hx).1
    · cases hx)
  obtain ⟨psl, csl, rfl⟩ := hs.form
  obtain ⟨pil, cil, rfl⟩ := hi.form
  clear k hz hs hi
  obtain ⟨q1, q2, q3, q4, q5, q6, q7, q8, q9, q10, q11⟩ := HQ.out W1 (Below.refl _ _)
  generalize seeE groundB st ip n r = P at *
  generalize ouP groundB st ip n r n.sees = PO at *
  generalize ouE groundB st ip n r = er at *
  go_enter Tryz.func16, Tryz.ntmps16
  go_upto_region 1 with fail
  rw [← hW1]
  clear hW1
  go_wp2_with fail
  refine C1.out.mono ?_
  rintro e w4 ⟨R, g, pg, cg, hRP, rfl, hIN, hpg, hC, g4⟩
  have D4 := Lib.hid (next0 (Below.refl W1.heap.size W1) g4)
  have DD4 := Lib.hid (KW.out _ D4.out)
  have hlm := PL.out
  have HRP := Lib.hid hRP
  have HIN := Lib.hid hIN
  have HPG := Lib.hid hpg
  have HC := Lib.hid hC
  have NSo := Lib.hid (Own.nil w4.heap.size w4)
  have RL : Hid (R.length = PO.length) := Lib.hid (by rw [← hRP, List.length_map])
  have SZR : Hid (∀ x ∈ R, sizeT x.1.2.2.1 ≤ 1000000) := Lib.hid (fun x hx => SZ0.out x.1 (by rw [← hRP]; exact List.mem_map_of_mem hx))
  clear g4 C1 hRP hIN hpg hC PL SZ0 q1 q2 q3 q4 q5 q6 q7 q8 q9 q10 q11
  generalize hg0 : w4.heap.size = g0 at *
  have HG0 := Lib.hid hg0
  clear hg0
  generalize hm : PO.length = m at *
  have HM := Lib.hid hm
  clear hm
  go_wp2_with fail
  go_loopw [12, 27] (fun u3 i wr => ∃ (k : Nat) (F : List (Tm × Value)), k ≤ m ∧ i = .int .i64 k ∧ Hid (F.map (·.1) = (R.take k).map (·.1.2.2.1)) ∧ Hid (Own g0 wr F u3) ∧ Hid (Below g0 w4 wr)) (fun _ i _ => m - (intOf i).toNat)
  case atStart => exact ⟨0, [], Nat.zero_le _, rfl, Lib.hid rfl, NSo, Lib.hid (Below.refl _ _)⟩
  case round =>
    obtain ⟨k, F, hkn, rfl, hF, hO, hD⟩ := hrel
    generalize hwo : wr = wo at *
    clear hwo
    obtain ⟨va, vc, rfl⟩ := hO.out.form
    have hFl : F.length ≤ k := by
      have := congrArg List.length hF.out
      rw [List.length_map, List.length_map, List.length_take] at this
      omega
    have DW : Hid (Below w4.heap.size w4 wo) := Lib.hid (by rw [HG0.out]; exact hD.out)
    have hzr : g0 ≤ wo.heap.size := by have h1 := HG0.out; have h2 := hD.out.size; omega
    by_cases hlt : k < m
    · obtain ⟨⟨⟨r1, v1, t1, g1⟩, a1⟩, hx⟩ : ∃ x, R[k]? = some x := ⟨R[k]'(by rw [RL.out]; exact hlt), by simp⟩
      have hin := HIN.out _ (List.mem_of_getElem? hx)
      obtain ⟨pa, ca, ea⟩ := hin.1.form
      dsimp only at ea
      subst ea
      obtain ⟨hpe, hgl⟩ := HPG.out (by omega)
      subst hpe
      have hnm : t1.nm.size ≤ maxLen := hin.2.1
      have HNM := Lib.hid hnm
      have SI := Lib.hid hin.1
      have SZ1 := SZR.out _ (List.mem_of_getElem? hx)
      have hcl := fun (j : Nat) u hu => (DW.out.cell (p := ⟨g, k * 5 + j, none⟩) (show g < w4.heap.size from HG0.out ▸ hgl)).trans (HC.out k _ hx j u hu)
      have c0 := hcl 0 _ rfl
      have c1 := hcl 1 _ rfl
      have c2 := hcl 2 _ rfl
      have c3 := hcl 3 _ rfl
      have c4 := hcl 4 _ rfl
      rw [Nat.add_zero] at c0
      dsimp only at c0 c1 c2 c3 c4
      have j0 : (0 : Int) ≤ (k : Int) := by omega
      have j1 : (k : Int) < m := by omega
      obtain ⟨W3, hW3⟩ : ∃ z, z = wo.alloc (.cells #[.int .i64 r1, .int .i64 v1, .string t1.nm, .slice pa t1.args.length ca, .int .i64 g1] 74) := ⟨_, rfl⟩
      have H3 : Has W3 wo.heap.size #[.int .i64 r1, .int .i64 v1, .string t1.nm, .slice pa t1.args.length ca, .int .i64 g1] := by rw [hW3]; exact Has.new _ _ _
      have J3 : Hid (Below wo.heap.size wo W3) := Lib.hid (by rw [hW3]; exact below_alloc _ _)
      have hO3 : Hid (Own g0 W3 F (.slice va F.length vc)) := Lib.hid (hO.out.below J3.out)
      have hvb := Lib.hid hO3.out.1.lt
      have hD3 : Hid (Below g0 w4 W3) := Lib.hid (by rw [hW3]; exact hD.out.alloc hzr _)
      have hz3 : g0 ≤ W3.heap.size := by rw [hW3]; simp; omega
      have y2 := H3.cell 2
      have y3 := H3.cell 3
      have DWW := Lib.hid (KW.out wo (next0 D4.out DW.out))
      have hB3 : B ≤ W3.heap.size := Nat.le_trans hB (Nat.le_trans DWW.out.size J3.out.size)
      have IT := Lib.hid (NetCt.clone_any t1 B W3 (.slice pa t1.args.length ca) hB3 (SI.out.frame fun b o (hb : b < B) => (next0 (next0 D4.out DW.out) J3.out).cell (p := ⟨b, o, none⟩) (Nat.lt_of_lt_of_le hb (Nat.le_trans hB hzz))) SZ1)
      unfold NetCl.CloT at IT
      have F2 : Hid ((R.take (k + 1)).map (·.1.2.2.1) = (R.take k).map (·.1.2.2.1) ++ [t1]) := Lib.hid (by rw [take_more hx, List.map_append]; rfl)
      have AA1 : F.length + 1 ≤ maxLen := by unfold maxLen; omega
      have AA2 : (F.length + 1) * 40 ≤ 140737488355328 := by omega
      clear hx hin hcl H3 hnm SZ1
      go_upto_region 6 with fail
      rw [← hW3]
      clear hW3 c0 c1 c2 c3 c4
      go_wp2_with fail
      refine IT.out.mono ?_
      rintro e w5 ⟨q1, c5, rfl, s5, g5⟩
      have S5 := Lib.hid s5
      have hO5 := Lib.hid (hO3.out.below g5)
      have hD5 : Hid (Below g0 w4 w5) := Lib.hid (hD3.out.trans (g5.mono hz3))
      have hz5 : g0 ≤ w5.heap.size := Nat.le_trans hz3 g5.size
      have hz35 := Lib.hid hz3
      have AA3 : g0 ≤ (w5.alloc (.cells #[.string t1.nm, .slice q1 t1.args.length c5] 70)).heap.size := by simp <;> omega
      clear s5 g5 IT y2 y3 hz3
      go_wp2_with (at_builtin; go_must (refine wpList_append_lies _ rfl _ _ 23 rfl g0 70 i0 (.agg #[.string ⟨#[]⟩, .slice none 0 0]) 2 40 Tryz.underlying23 hi0 hi1 hi2 hi3 rfl (by decide) (.slice va F.length vc) F.length (flatL F) rfl (hO5.out.1.alloc _) ⟨w5.heap.size, 0, none⟩ 1 1 [.string t1.nm, .slice q1 t1.args.length c5] rfl rfl (news2 _ _ _ _) (one2 _ _ _ _) (by decide) AA1 AA2 AA3 (w5.heap.size + 1) (by simp) ?_; intro g6 c6 w6 hown6 hgrow6 hat6 hlt6; have O6 := Lib.hid (hO5.out.add S5.out HNM.out hz35.out (fun k hk => (hvb.out k hk).2) hown6 hgrow6 hat6); have D6 := Lib.hid ((hD5.out.alloc hz5 (.cells #[.string t1.nm, .slice q1 t1.args.length c5] 70)).grown hgrow6 (by simp <;> omega) (fun j hj => (hO5.out.1.lt j hj).1)); clear hown6 hgrow6 hat6 hlt6))
      have F6 : Hid ((F ++ [(t1, Value.slice q1 t1.args.length c5)]).map (·.1) = (R.take (k + 1)).map (·.1.2.2.1)) := Lib.hid (by rw [List.map_append, hF.out, F2.out]; rfl)
      go_roundw
      case rel => first | exact ⟨k + 1, F ++ [(t1, Value.slice q1 t1.args.length c5)], by omega, by go_num, F6, (by first | exact O6 | exact Lib.hid (by simpa using O6.out)), D6⟩ | ((repeat (apply Exists.intro)); refine ⟨?_, rfl⟩; exact ⟨k + 1, F ++ [(t1, Value.slice q1 t1.args.length c5)], by omega, by go_num, F6, (by first | exact O6 | exact Lib.hid (by simpa using O6.out)), D6⟩)
      case measure => simp [intOf] <;> omega
    · obtain rfl : k = m := by omega
      have FE : Hid (P = F.map (·.1)) := Lib.hid (by rw [hF.out, GE.out, ← HRP.out, List.map_map, List.take_of_length_le (by rw [RL.out]; exact Nat.le_refl _)]; rfl)
      have DF : Hid (Below w.heap.size w wo) := Lib.hid (next0 DD4.out DW.out)
      have R8 : Hid (SlIn (· < wo.heap.size) wo (F.map (·.1)) (.slice va F.length vc)) := Lib.hid (hO.out.slin.weaken fun b hb => hb.2)
      go_wp2_with fail
      refine bodyPost_ret (v := .tuple #[.slice va F.length vc, .int .i64 er]) (by simp [results, Tryz.results16, go_sem]) rfl ?_
      rw [FE.out]
      exact TsE.mk R8.out DF.out
end NetSe
end Go.Proofs.YtkfeliogglnngaaGreat
