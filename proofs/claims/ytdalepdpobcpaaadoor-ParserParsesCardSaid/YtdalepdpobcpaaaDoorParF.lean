/- The reader's body. No conditions but a reader in memory. -/
import Derived.Test.YtdalepdpobcpaaaDoorParE
namespace Go.Proofs.YtdalepdpobcpaaaDoor
open Go Go.RowKit
namespace ParF
open Kit LexM TermM TermI TermU LexP ParM ParA ParB ParC ParD ParK ParE
/-- What the method that reads a body leaves. -/
def BdR (r : Nat) (w : World) (o : Out (List Lt)) (e : Ending) (w' : World) : Prop :=
  (∃ l ts p c, o = .good l ts ∧ e = .returned (.slice p l.length c) ∧ LIn (fun b => w.heap.size ≤ b ∧ b < w'.heap.size) w' l (.slice p l.length c) ∧ Rd w' r ts ∧ Ch r w w') ∨
  (∃ a er, o = .bad a er ∧ e = .panicked (PE a er) ∧ Ch r w w')
theorem litF_bad {ts : List GTok} (h : (atomB (hd ts) || isB (hd ts) sNot) = false) : litF ts = .bad (hd ts).2.2 1 := by
  rw [Bool.or_eq_false_iff] at h
  unfold litF atomF
  rw [h.1, h.2]
  rfl
set_option maxRecDepth 100000 in
set_option maxHeartbeats 6400000 in
theorem body_any (r : Nat) (w : World) (ts : List GTok) (h : Rd w r ts) :
    Calls Tryd.prog 56 #[.pointer (some ⟨r, 0, none⟩)] w (BdR r w (bodyF ts)) := by
  obtain ⟨i0, hi, hz0, hz1, hz2⟩ := info_parts Tryd.infoL
  have hr := h.lt
  have HI0 := Lib.hid (lit_any r w ts h)
  have HI := Lib.hid (fun w' tk (k : Rd w' r tk) => lit_any r w' tk k)
  have HO : Hid (bodyF ts = (litF ts).then fun x r => litsF 8 [x] r) := Lib.hid rfl
  generalize bodyF ts = O at *
  unfold LtR at HI0 HI
  unfold BdR
  clear h
  go_enter Tryd.func56, Tryd.ntmps56
  go_wp2_with fail
  refine HI0.out.mono ?_
  rintro e w2 (⟨x, ts2, p, c, hO, rfl, hs, hn, hR, hC⟩ | ⟨a, er, hO, rfl, hC⟩)
  case inr =>
    have HO2 : Hid (O = .bad a er) := Lib.hid (HO.out.trans (then_bad hO))
    have C2 := Lib.hid hC
    clear hO hC HI0
    go_wp2_with fail
    exact ⟨rfl, Or.inr ⟨a, er, HO2.out, rfl, C2.out⟩⟩
  case inl =>
    have HO2 : Hid (O = litsF 8 [x] ts2) := Lib.hid (HO.out.trans (then_good hO))
    have hsz := hC.size
    have O2 : Hid (OwnG KL w.heap.size (w2.alloc (.cells #[.bool x.1, .string x.2.nm, .slice p x.2.args.length c] 46)) [(x, .slice p x.2.args.length c)] (.slice (some ⟨w2.heap.size, 0, none⟩) 1 1)) := Lib.hid (OwnG.one (K := KL) (x := (x, .slice p x.2.args.length c)) ⟨hs, hn⟩ hsz)
    have R2 := Lib.hid (hR.alloc (.cells #[.bool x.1, .string x.2.nm, .slice p x.2.args.length c] 46))
    have C2 := Lib.hid (hC.alloc (.cells #[.bool x.1, .string x.2.nm, .slice p x.2.args.length c] 46))
    clear hO hC HI0 hs hn hR HO hsz
    go_wp2_with fail
    go_loopw [3] (fun v wx => ∃ (M : List (Lt × Value)) (n : Nat) (tk : List GTok), M.length + n = 8 ∧ Hid (O = litsF (n + 1) (M.map (·.1)) tk) ∧ Hid (OwnG KL w.heap.size wx M v) ∧ Hid (Rd wx r tk) ∧ Hid (Ch r w wx)) (fun v _ => 9 - lenOf v)
    case atStart => exact ⟨[(x, .slice p x.2.args.length c)], 7, ts2, rfl, HO2, O2, R2, C2⟩
    case round =>
      clear O2 R2 C2 HO2
      obtain ⟨M, n, tk, hMn, HO, OW, RD, CC⟩ := hrel
      obtain ⟨va, vc, hv⟩ := OW.out.form
      subst hv
      have HML : Hid ((M.map (·.1)).length = M.length) := Lib.hid (by simp)
      cases hc : isB (hd tk) sAnd with
      | false =>
        have HN := Lib.hid (acc_no wr r tk sAnd RD.out hc)
        have HO3 : Hid (O = .good (M.map (·.1)) tk) := Lib.hid (by rw [HO.out]; simp only [litsF, hc]; rfl)
        clear hc HO
        go_wp2_with fail
        refine HN.out.mono ?_
        rintro e w3 ⟨rfl, k⟩
        have RD3 := Lib.hid (RD.out.below k)
        have S3 : Hid (RowG KL (fun b => w.heap.size ≤ b ∧ b < w3.heap.size) w3 M (.slice va M.length vc)) := Lib.hid (OW.out.ch (Ch.of (r := r) k) hr).row
        have C4 := Lib.hid (CC.out.below k)
        clear k HN
        go_wp2_with fail
        go_ret
        exact Or.inl ⟨_, _, va, vc, HO3.out, ret_sl HML.out.symm, ⟨M, rfl, by rw [HML.out]; exact S3.out⟩, RD3.out, C4.out⟩
      | true =>
        have HN := Lib.hid (acc_yes wr r tk sAnd RD.out lit_ne.2.2.2.2.2.1 hc)
        have HO2 : Hid (O = if (decide (M.length = 8) && (atomB (hd tk.tail) || isB (hd tk.tail) sNot)) = true then .bad (hd tk.tail).2.2 2 else (litF tk.tail).then fun x r => litsF n ((M.map (·.1)) ++ [x]) r) := Lib.hid (by rw [HO.out]; simp only [litsF, hc, List.length_map]; rfl)
        clear hc HO
        generalize tk.tail = tk2 at *
        go_wp2_with fail
        refine HN.out.mono ?_
        rintro e w3 ⟨rfl, k1, k2⟩
        have RD3 := Lib.hid k1
        have OW3 := Lib.hid (OW.out.ch k2 hr)
        have C4 := Lib.hid (CC.out.trans k2)
        clear k1 k2 HN RD OW CC
        have HFN := Lib.hid (fun w' => fail_no w' r 2)
        by_cases h4 : M.length = 8
        · have hn0 : n = 0 := by omega
          subst hn0
          have d4 : ((M.length : Int) == 8) = true := by simp; omega
          have HBT := Lib.hid (blit_any w3 r tk2 RD3.out)
          cases hbg : (atomB (hd tk2) || isB (hd tk2) sNot) with
          | true =>
            have HO3 : Hid (O = .bad (hd tk2).2.2 2) := Lib.hid (by rw [HO2.out, hbg, decide_eq_true h4]; rfl)
            rw [hbg] at HBT
            have HFY := Lib.hid (fun w' (k : Below w3.heap.size w3 w') => fail_yes w' r 2 tk2 (RD3.out.below k))
            clear hbg HO2
            go_wp2_with fail
            refine HBT.out.mono ?_
            rintro e w4 ⟨rfl, k⟩
            have HF2 := Lib.hid (HFY.out w4 k)
            have C5 := Lib.hid (C4.out.below k)
            clear k
            go_wp2_with fail
            refine HF2.out.mono ?_
            rintro e w5 ⟨rfl, k⟩
            have C6 := Lib.hid (C5.out.below k)
            clear k
            go_wp2_with fail
            exact ⟨rfl, Or.inr ⟨_, _, HO3.out, rfl, C6.out⟩⟩
          | false =>
            have hba := litF_bad hbg
            have HO3 : Hid (O = .bad (hd tk2).2.2 1) := Lib.hid (by rw [HO2.out, hbg, hba]; simp [Out.then])
            have HBA := Lib.hid hba
            rw [hbg] at HBT
            have HI2 := Lib.hid (fun w' (k : Below w3.heap.size w3 w') => HI.out w' tk2 (RD3.out.below k))
            clear hbg HO2 hba HI
            go_wp2_with fail
            refine HBT.out.mono ?_
            rintro e w4 ⟨rfl, k⟩
            have HI3 := Lib.hid (HI2.out w4 k)
            have C5 := Lib.hid (C4.out.below k)
            clear k HI2
            go_wp2_with fail
            refine (HFN.out _).mono ?_
            rintro e w5 ⟨rfl, rfl⟩
            go_wp2_with fail
            refine HI3.out.mono ?_
            rintro e w6 (⟨x', ts', p', c', hO', rfl, hs', hn', hR', hC'⟩ | ⟨a', er', hO', rfl, hC'⟩)
            · rw [HBA.out] at hO'
              cases hO'
            · have C6 := Lib.hid (C5.out.trans hC')
              rw [HBA.out] at hO'
              injection hO' with e1 e2
              subst e1 e2
              clear hC' HI3
              go_wp2_with fail
              exact ⟨rfl, Or.inr ⟨_, _, HO3.out, rfl, C6.out⟩⟩
        · have d4 : ((M.length : Int) == 8) = false := by simp; omega
          have HO3 : Hid (O = (litF tk2).then fun x r => litsF n ((M.map (·.1)) ++ [x]) r) := Lib.hid (by rw [HO2.out, decide_eq_false h4]; rfl)
          have HI2 := Lib.hid (HI.out w3 tk2 RD3.out)
          have hv := Lib.hid OW3.out.1.lt
          have hb3 := C4.out.size
          clear HO2 HI
          obtain ⟨n', hn'⟩ : ∃ n', n = n' + 1 := ⟨n - 1, by omega⟩
          subst hn'
          go_wp2_with fail
          refine (HFN.out _).mono ?_
          rintro e w5 ⟨rfl, rfl⟩
          go_wp2_with fail
          refine HI2.out.mono ?_
          rintro e w6 (⟨x', ts', p', c', hO', rfl, hs', hn', hR', hC'⟩ | ⟨a', er', hO', rfl, hC'⟩)
          case inr =>
            have C6 := Lib.hid (C4.out.trans hC')
            have HO4 : Hid (O = .bad a' er') := Lib.hid (HO3.out.trans (then_bad hO'))
            clear hC' HI2 hO'
            go_wp2_with fail
            exact ⟨rfl, Or.inr ⟨_, _, HO4.out, rfl, C6.out⟩⟩
          case inl =>
            have C6 := Lib.hid (C4.out.trans hC')
            have O6 := Lib.hid (OW3.out.ch hC' hr)
            have R6 := Lib.hid hR'
            have S6 : Hid (KL.inn (fun b => w3.heap.size ≤ b ∧ b < w6.heap.size) w6 (x', .slice p' x'.2.args.length c')) := Lib.hid ⟨hs', hn'⟩
            have HO4 : Hid (O = litsF (n' + 1) (List.map (fun x : Lt × Value => x.1) (M ++ [(x', Value.slice p' x'.2.args.length c')])) ts') := Lib.hid (by rw [HO3.out, then_good hO', List.map_append]; rfl)
            have A1 : M.length + 1 ≤ maxLen := by unfold maxLen; omega
            have A2 : (M.length + 1) * 48 ≤ 140737488355328 := by omega
            have hs6 := hC'.size
            have A4 : w.heap.size ≤ (w6.alloc (.cells #[.bool x'.1, .string x'.2.nm, .slice p' x'.2.args.length c'] 46)).heap.size := by rw [World.size_alloc]; omega
            clear hC' HI2 hO' hR' hs' hn'
            go_wp2_with (at_builtin; refine wpList_append_lies _ rfl _ _ 32 rfl w.heap.size 46 i0 (.agg #[.bool false, .string ⟨#[]⟩, .slice none 0 0]) 3 48 Tryd.underlying32 hi hz0 hz1 hz2 rfl (by decide) (.slice va M.length vc) M.length (KL.flat M) rfl (O6.out.1.alloc _) ⟨w6.heap.size, 0, none⟩ 1 1 [.bool x'.1, .string x'.2.nm, .slice p' x'.2.args.length c'] rfl rfl (newsK _ _ _ _ _) (one_L _ _ _ _ _) (by decide) A1 A2 A4 (w6.heap.size + 1) (by simp) ?_; intro g5 cap5 w7 hown hgrow hat hlt5)
            have O7 := Lib.hid (O6.out.add S6.out hb3 (fun k hk => (hv.out k hk).2) hown hgrow hat)
            have C7 := Lib.hid ((C6.out.alloc _).grown hgrow (fun k hk => (hv.out k hk).1))
            have R7 : Hid (Rd w7 r ts') := Lib.hid ((R6.out.alloc _).grown hgrow (fun k hk => by have := (hv.out k hk).1; omega))
            clear hown hgrow hat
            go_wp2_with fail
            go_roundw
            case rel => exact ⟨M ++ [(x', .slice p' x'.2.args.length c')], n', ts', by simp; omega, HO4, O7, R7, C7⟩
            case measure => simp [lenOf]; omega
end ParF
end Go.Proofs.YtdalepdpobcpaaaDoor
