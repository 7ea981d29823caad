/- The reader's description and terms. No conditions but a reader in memory (terms: at most twenty thousand tokens). -/
import Derived.Test.YtdalepdpobcpaaaDoorParG
namespace Go.Proofs.YtdalepdpobcpaaaDoor
open Go Go.RowKit
namespace ParH
open Kit LexM TermM TermI TermU LexP ParM ParA ParB ParC ParD ParK ParE ParF ParG
/-- What the method that reads a description leaves. -/
def DsR (r : Nat) (w : World) (o : Out (List Rl)) (e : Ending) (w' : World) : Prop :=
  (∃ l ts p c, o = .good l ts ∧ e = .returned (.slice p l.length c) ∧ RIn (fun b => w.heap.size ≤ b ∧ b < w'.heap.size) w' l (.slice p l.length c) ∧ Rd w' r ts ∧ Ch r w w') ∨
  (∃ a er, o = .bad a er ∧ e = .panicked (PE a er) ∧ Ch r w w')
theorem ruleF_bad {ts : List GTok} (h : atomB (hd ts) = false) : ruleF ts = .bad (hd ts).2.2 1 := by
  unfold ruleF atomF
  rw [h]
  rfl
set_option maxRecDepth 100000 in
set_option maxHeartbeats 6400000 in
theorem desc_any (r : Nat) (w : World) (ts : List GTok) (h : Rd w r ts) :
    Calls Tryd.prog 28 #[.pointer (some ⟨r, 0, none⟩)] w (DsR r w (descF 129 [] ts)) := by
  obtain ⟨i0, hi, hz0, hz1, hz2⟩ := info_parts Tryd.infoR
  have F0 := fld0
  have hr := h.lt
  have HI := Lib.hid (fun w' tk (k : Rd w' r tk) => rule_any r w' tk k)
  have HO : Hid (descF 129 [] ts = descF 129 [] ts) := Lib.hid rfl
  generalize hOO : descF 129 [] ts = O at *
  have HO1 : Hid (O = descF (128 + 1) [] ts) := Lib.hid hOO.symm
  have R0 := Lib.hid h
  unfold RlR at HI
  unfold DsR
  clear h HO hOO
  go_enter Tryd.func28, Tryd.ntmps28
  go_wp2_with fail
  go_loopw [3] (fun v wx => ∃ (M : List (Rl × Value × Value)) (n : Nat) (tk : List GTok), M.length + n = 128 ∧ Hid (O = descF (n + 1) (M.map (·.1)) tk) ∧ Hid (OwnG KR w.heap.size wx M v) ∧ Hid (Rd wx r tk) ∧ Hid (Ch r w wx)) (fun v _ => 129 - lenOf v)
  case atStart => exact ⟨[], 128, ts, rfl, HO1, Lib.hid (OwnG.nil _ _), R0, Lib.hid (Ch.refl _ _)⟩
  case round =>
    clear R0 HO1
    obtain ⟨M, n, tk, hMn, HO, OW, RD, CC⟩ := hrel
    obtain ⟨va, vc, hv⟩ := OW.out.form
    subst hv
    have HML : Hid ((M.map (·.1)).length = M.length) := Lib.hid (by simp)
    have HN := Lib.hid (next_any wr r tk RD.out)
    by_cases hk0 : (hd tk).1 = 0
    · have hkb : ((hd tk).1 != 0) = false := by simp [hk0]
      have HO3 : Hid (O = .good (M.map (·.1)) tk) := Lib.hid (by rw [HO.out]; simp only [descF, hk0, if_true])
      generalize hd tk = t at *
      clear hk0 HO
      go_wp2_with fail
      refine HN.out.mono ?_
      rintro e w3 ⟨rfl, k⟩
      have RD3 := Lib.hid (RD.out.below k)
      have S3 : Hid (RowG KR (fun b => w.heap.size ≤ b ∧ b < w3.heap.size) w3 M (.slice va M.length vc)) := Lib.hid (OW.out.ch (Ch.of (r := r) k) hr).row
      have C4 := Lib.hid (CC.out.below k)
      clear k HN
      go_wp2_with fail
      go_ret
      exact Or.inl ⟨_, _, va, vc, HO3.out, ret_sl HML.out.symm, ⟨M, rfl, by rw [HML.out]; exact S3.out⟩, RD3.out, C4.out⟩
    · have hkb : ((hd tk).1 != 0) = true := by simpa using hk0
      have HO2 : Hid (O = if (decide (M.length = 128) && atomB (hd tk)) = true then .bad (hd tk).2.2 2 else (ruleF tk).then fun x r => descF n ((M.map (·.1)) ++ [x]) r) := Lib.hid (by rw [HO.out]; simp only [descF, hk0, if_false, List.length_map])
      have HBT0 := Lib.hid (fun w' (k : Rd w' r tk) => batom_any w' r tk k)
      have HFY0 := Lib.hid (fun w' (k : Rd w' r tk) => fail_yes w' r 2 tk k)
      have HFN := Lib.hid (fun w' => fail_no w' r 2)
      have HRB := Lib.hid (fun (h : atomB (hd tk) = false) => ruleF_bad h)
      have HI1 := Lib.hid (fun w' (k : Rd w' r tk) => HI.out w' tk k)
      generalize hd tk = t at *
      generalize ruleF tk = O3 at *
      clear hk0 HO HI
      go_wp2_with fail
      refine HN.out.mono ?_
      rintro e w3 ⟨rfl, k⟩
      have RD3 := Lib.hid (RD.out.below k)
      have OW3 := Lib.hid (OW.out.ch (Ch.of (r := r) k) hr)
      have C4 := Lib.hid (CC.out.below k)
      clear k HN RD OW CC
      by_cases h4 : M.length = 128
      · have hn0 : n = 0 := by omega
        subst hn0
        have d4 : ((M.length : Int) == 128) = true := by simp; omega
        have HBT := Lib.hid (HBT0.out w3 RD3.out)
        clear HBT0
        cases hbg : atomB t with
        | true =>
          have HO4 : Hid (O = .bad t.2.2 2) := Lib.hid (by rw [HO2.out, hbg, decide_eq_true h4]; rfl)
          rw [hbg] at HBT
          have HFY := Lib.hid (fun w' (k : Below w3.heap.size w3 w') => HFY0.out w' (RD3.out.below k))
          clear hbg HO2 HFY0
          go_wp2_with fail
          refine HBT.out.mono ?_
          rintro e w4 ⟨rfl, k⟩
          have HF2 := Lib.hid (HFY.out w4 k)
          have C5 := Lib.hid (C4.out.below k)
          clear k
          go_wp2_with fail
          refine HF2.out.mono ?_
          rintro e w5 ⟨rfl, k⟩
          have C6 := Lib.hid (C5.out.below k)
          clear k
          go_wp2_with fail
          exact ⟨rfl, Or.inr ⟨_, _, HO4.out, rfl, C6.out⟩⟩
        | false =>
          have hba := HRB.out hbg
          have HO4 : Hid (O = .bad t.2.2 1) := Lib.hid (by rw [HO2.out, hbg, hba]; simp [Out.then])
          have HBA := Lib.hid hba
          rw [hbg] at HBT
          have HI2 := Lib.hid (fun w' (k : Below w3.heap.size w3 w') => HI1.out w' (RD3.out.below k))
          clear hbg HO2 hba HI1 HFY0
          go_wp2_with fail
          refine HBT.out.mono ?_
          rintro e w4 ⟨rfl, k⟩
          have HI3 := Lib.hid (HI2.out w4 k)
          have C5 := Lib.hid (C4.out.below k)
          clear k HI2
          go_wp2_with fail
          refine (HFN.out _).mono ?_
          rintro e w5 ⟨rfl, rfl⟩
          go_wp2_with fail
          refine HI3.out.mono ?_
          rintro e w6 (⟨x', ts', p', c', q', d', hO', rfl, hs', hR', hC'⟩ | ⟨a', er', hO', rfl, hC'⟩)
          · rw [HBA.out] at hO'
            cases hO'
          · have C6 := Lib.hid (C5.out.trans hC')
            rw [HBA.out] at hO'
            injection hO' with e1 e2
            subst e1 e2
            clear hC' HI3
            go_wp2_with fail
            exact ⟨rfl, Or.inr ⟨_, _, HO4.out, rfl, C6.out⟩⟩
      · have d4 : ((M.length : Int) == 128) = false := by simp; omega
        have HO4 : Hid (O = O3.then fun x r => descF n ((M.map (·.1)) ++ [x]) r) := Lib.hid (by rw [HO2.out, decide_eq_false h4]; rfl)
        have HI2 := Lib.hid (HI1.out w3 RD3.out)
        have hv := Lib.hid OW3.out.1.lt
        have hb3 := C4.out.size
        clear HO2 HI1 HBT0 HFY0 HRB
        obtain ⟨n', hn'⟩ : ∃ n', n = n' + 1 := ⟨n - 1, by omega⟩
        subst hn'
        go_wp2_with fail
        refine (HFN.out _).mono ?_
        rintro e w5 ⟨rfl, rfl⟩
        go_wp2_with fail
        refine HI2.out.mono ?_
        rintro e w6 (⟨x', ts', p', c', q', d', hO', rfl, hs', hR', hC'⟩ | ⟨a', er', hO', rfl, hC'⟩)
        case inr =>
          have C6 := Lib.hid (C4.out.trans hC')
          have HO5 : Hid (O = .bad a' er') := Lib.hid (HO4.out.trans (then_bad hO'))
          clear hC' HI2 hO'
          go_wp2_with fail
          exact ⟨rfl, Or.inr ⟨_, _, HO5.out, rfl, C6.out⟩⟩
        case inl =>
          have C6 := Lib.hid (C4.out.trans hC')
          have O6 := Lib.hid (OW3.out.ch hC' hr)
          have R6 := Lib.hid hR'
          have S6 := Lib.hid hs'
          have HO5 : Hid (O = descF (n' + 1) (List.map (fun x : Rl × Value × Value => x.1) (M ++ [(x', Value.slice p' x'.1.args.length c', Value.slice q' x'.2.length d')])) ts') := Lib.hid (by rw [HO4.out, then_good hO', List.map_append]; rfl)
          have A1 : M.length + 1 ≤ maxLen := by unfold maxLen; omega
          have A2 : (M.length + 1) * 64 ≤ 140737488355328 := by omega
          have hs6 := hC'.size
          have A4 : w.heap.size ≤ (w6.alloc (.cells #[.string x'.1.nm, .slice p' x'.1.args.length c', .slice q' x'.2.length d'] 34)).heap.size := by rw [World.size_alloc]; omega
          clear hC' HI2 hO' hR' hs'
          go_wp2_with (at_builtin; refine wpList_append_lies _ rfl _ _ 23 rfl w.heap.size 34 i0 (.agg #[.string ⟨#[]⟩, .slice none 0 0, .slice none 0 0]) 3 64 Tryd.underlying23 hi hz0 hz1 hz2 rfl (by decide) (.slice va M.length vc) M.length (KR.flat M) rfl (O6.out.1.alloc _) ⟨w6.heap.size, 0, none⟩ 1 1 [.string x'.1.nm, .slice p' x'.1.args.length c', .slice q' x'.2.length d'] rfl rfl (newsK _ _ _ _ _) (one_R _ _ _ _ _ _ _) (by decide) A1 A2 A4 (w6.heap.size + 1) (by simp) ?_; intro g5 cap5 w7 hown hgrow hat hlt5)
          have O7 := Lib.hid (O6.out.add S6.out hb3 (fun k hk => (hv.out k hk).2) hown hgrow hat)
          have C7 := Lib.hid ((C6.out.alloc _).grown hgrow (fun k hk => (hv.out k hk).1))
          have R7 : Hid (Rd w7 r ts') := Lib.hid ((R6.out.alloc _).grown hgrow (fun k hk => by have := (hv.out k hk).1; omega))
          clear hown hgrow hat
          go_wp2_with fail
          go_roundw
          case rel => exact ⟨M ++ [(x', .slice p' x'.1.args.length c', .slice q' x'.2.length d')], n', ts', by simp; omega, HO5, O7, R7, C7⟩
          case measure => simp [lenOf]; omega
end ParH
end Go.Proofs.YtdalepdpobcpaaaDoor
