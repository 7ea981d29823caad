/- The reader's term and arguments. No conditions but a reader in memory. -/
import Derived.Test.YtdalepdpobcpaaaDoorParB
import Derived.Deep.DeepCutAuto
namespace Go.Proofs.YtdalepdpobcpaaaDoor
open Go Go.RowKit
namespace ParC
open Kit LexM TermM TermI TermU LexP ParM ParA ParB
def lenOf : Value → Nat
  | .slice _ n _ => n
  | _ => 0
/-- What a method that reads a term leaves. -/
def TmR (r : Nat) (w : World) (o : Out Tm) (e : Ending) (w' : World) : Prop :=
  (∃ t ts p c, o = .good t ts ∧ e = .returned (.agg #[.string t.nm, .slice p t.args.length c]) ∧ SlIn (fun b => w.heap.size ≤ b ∧ b < w'.heap.size) w' t.args (.slice p t.args.length c) ∧ t.nm.size ≤ maxLen ∧ Rd w' r ts ∧ Ch r w w') ∨
  (∃ a er, o = .bad a er ∧ e = .panicked (PE a er) ∧ Ch r w w')
/-- What a method that reads a list of terms leaves. -/
def TsR (r : Nat) (w : World) (o : Out (List Tm)) (e : Ending) (w' : World) : Prop :=
  (∃ l ts p c, o = .good l ts ∧ e = .returned (.slice p l.length c) ∧ SlIn (fun b => w.heap.size ≤ b ∧ b < w'.heap.size) w' l (.slice p l.length c) ∧ Rd w' r ts ∧ Ch r w w') ∨
  (∃ a er, o = .bad a er ∧ e = .panicked (PE a er) ∧ Ch r w w')
theorem ret_sl {p : Option Addr} {n m c : Nat} (h : n = m) : Ending.returned (.slice p n c) = Ending.returned (.slice p m c) := by rw [h]
theorem own_one {base : Nat} {w : World} {t : Tm} {p : Option Addr} {c : Nat} (h : SlIn (fun b => base ≤ b ∧ b < w.heap.size) w t.args (.slice p t.args.length c)) (hn : t.nm.size ≤ maxLen) (hb : base ≤ w.heap.size) :
    Own base (w.alloc (.cells #[.string t.nm, .slice p t.args.length c] 31)) [(t, .slice p t.args.length c)] (.slice (some ⟨w.heap.size, 0, none⟩) 1 1) := by
  refine ⟨?_, fun b => base ≤ b ∧ b < w.heap.size, fun b hk => ⟨hk.1, by rw [World.size_alloc]; omega, fun e => ?_⟩, fun x hx => ?_⟩
  · have hh := World.ownsRow_lit (e := 31) (size := 2) (base := base) w #[.string t.nm, .slice p t.args.length c] 1 hb (by unfold maxLen; omega) rfl
    exact hh
  · have e' : w.heap.size = b := Option.some.inj e
    omega
  · obtain rfl := List.mem_singleton.1 hx
    exact ⟨h.frame fun b o hk => (below_alloc w _).cell (p := ⟨b, o, none⟩) hk.2, hn⟩
set_option maxRecDepth 100000 in
set_option maxHeartbeats 6400000 in
theorem args_any (f : List GTok → Out Tm) (hbad : ∀ ts, begB (hd ts) = false → ∃ a er, f ts = .bad a er) (L : Int) (r : Nat)
    (IH0 : ∀ (w : World) (ts : List GTok), Rd w r ts → Calls Tryd.prog 37 #[.pointer (some ⟨r, 0, none⟩), .int .i64 L] w (TmR r w (f ts)))
    (w : World) (ts : List GTok) (h : Rd w r ts) :
    Calls Tryd.prog 61 #[.pointer (some ⟨r, 0, none⟩), .int .i64 L] w (TsR r w (argsF f ts)) := by
  obtain ⟨i0, hi, hz0, hz1, hz2⟩ := info_parts Tryd.info28
  have IH := Lib.hid IH0
  have HB := Lib.hid hbad
  have hr := h.lt
  have HAR : Hid (argsF f ts = if isB (hd ts) sOpen = true then (f ts.tail).then fun t r => moreF f 4 [t] r else .good [] ts) := Lib.hid rfl
  generalize argsF f ts = O at *
  cases ho : isB (hd ts) sOpen with
  | false =>
    have HN := Lib.hid (acc_no w r ts sOpen h ho)
    have HR := Lib.hid h
    rw [ho] at HAR
    unfold TsR
    clear h IH0 hbad ho
    go_enter Tryd.func61, Tryd.ntmps61
    go_wp2_with fail
    refine HN.out.mono ?_
    rintro e w1 ⟨rfl, k⟩
    have K := Lib.hid k
    clear k
    go_wp2_with fail
    go_ret
    exact Or.inl ⟨[], ts, none, 0, by rw [HAR.out]; rfl, rfl, SlIn.none _ _, HR.out.below K.out, Ch.of K.out⟩
  | true =>
    have HN := Lib.hid (acc_yes w r ts sOpen h lit_ne.1 ho)
    rw [ho, if_pos rfl] at HAR
    clear h IH0 hbad ho
    generalize ts.tail = ts1 at *
    unfold TsR
    go_enter Tryd.func61, Tryd.ntmps61
    go_wp2_with fail
    refine HN.out.mono ?_
    rintro e w1 ⟨rfl, k1, k2⟩
    have I1 := Lib.hid (IH.out w1 ts1 k1)
    have C1 := Lib.hid k2
    clear k1 k2 HN
    go_wp2_with fail
    refine I1.out.mono ?_
    rintro e w2 (⟨t, ts2, p, c, hO, rfl, hs, hn, hR, hC⟩ | ⟨a, er, hO, rfl, hC⟩)
    case inr =>
      have HO := Lib.hid hO
      have C2 := Lib.hid (C1.out.trans hC)
      clear hO hC I1
      go_wp2_with fail
      exact ⟨rfl, Or.inr ⟨a, er, by rw [HAR.out, HO.out]; rfl, rfl, C2.out⟩⟩
    case inl =>
      have HO : Hid (O = moreF f 4 [t] ts2) := Lib.hid (by rw [HAR.out, hO]; rfl)
      have C2 := Lib.hid (C1.out.trans hC)
      have hsz := C1.out.size
      have S2 := hs.weaken (ok' := fun b => w.heap.size ≤ b ∧ b < w2.heap.size) (fun b hb => ⟨Nat.le_trans hsz hb.1, hb.2⟩)
      have O2 := Lib.hid (own_one (base := w.heap.size) S2 hn C2.out.size)
      have R2 := Lib.hid (hR.alloc (.cells #[.string t.nm, .slice p t.args.length c] 31))
      have C3 := Lib.hid (C2.out.alloc (.cells #[.string t.nm, .slice p t.args.length c] 31))
      clear hO hC hs hn hR S2 I1 C1 C2 HAR
      go_wp2_with fail
      go_loopw [5] (fun v wx => ∃ (M : List (Tm × Value)) (n : Nat) (tk : List GTok), M.length + n = 4 ∧ Hid (O = moreF f (n + 1) (M.map (·.1)) tk) ∧ Hid (Own w.heap.size wx M v) ∧ Hid (Rd wx r tk) ∧ Hid (Ch r w wx)) (fun v _ => 5 - lenOf v)
      case atStart => exact ⟨[(t, .slice p t.args.length c)], 3, ts2, rfl, HO, O2, R2, C3⟩
      case round =>
        clear O2 R2 C3 HO
        obtain ⟨M, n, tk, hMn, HO, OW, RD, CC⟩ := hrel
        obtain ⟨va, vc, hv⟩ := OW.out.form
        subst hv
        cases hc : isB (hd tk) sComma with
        | false =>
          have HN := Lib.hid (acc_no wr r tk sComma RD.out hc)
          have HO2 : Hid (O = if isB (hd tk) sShut = true then .good (M.map (·.1)) tk.tail else .bad (hd tk).2.2 1) := Lib.hid (by rw [HO.out]; simp only [moreF, hc]; rfl)
          clear hc
          go_wp2_with fail
          refine HN.out.mono ?_
          rintro e w3 ⟨rfl, k⟩
          have RD3 := Lib.hid (RD.out.below k)
          have OW3 := Lib.hid (OW.out.below k)
          have C4 := Lib.hid (CC.out.below k)
          clear k HN
          cases hd2 : isB (hd tk) sShut with
          | false =>
            have HE := Lib.hid (exp_no w3 r tk sShut RD3.out hd2)
            have HO3 : Hid (O = .bad (hd tk).2.2 1) := Lib.hid (by rw [HO2.out, hd2]; rfl)
            clear hd2
            go_wp2_with fail
            refine HE.out.mono ?_
            rintro e w4 ⟨rfl, k⟩
            have C5 := Lib.hid (C4.out.trans k)
            clear k
            go_wp2_with fail
            exact ⟨rfl, Or.inr ⟨_, _, HO3.out, rfl, C5.out⟩⟩
          | true =>
            have HE := Lib.hid (exp_yes w3 r tk sShut RD3.out lit_ne.2.1 hd2)
            have HO3 : Hid (O = .good (M.map (·.1)) tk.tail) := Lib.hid (by rw [HO2.out, hd2]; rfl)
            have hml : (M.map (·.1)).length = M.length := by simp
            clear hd2
            go_wp2_with fail
            refine HE.out.mono ?_
            rintro e w4 ⟨rfl, k1, k2⟩
            have C5 := Lib.hid (C4.out.trans k2)
            have R5 := Lib.hid k1
            have S5 := Lib.hid ((own_ch OW3.out k2 hr).slin)
            have HML := Lib.hid hml
            clear k1 k2 hml
            go_wp2_with fail
            go_ret
            exact Or.inl ⟨_, _, va, vc, HO3.out, ret_sl HML.out.symm, by rw [HML.out]; exact S5.out, R5.out, C5.out⟩
        | true =>
          have HN := Lib.hid (acc_yes wr r tk sComma RD.out lit_ne.2.2.1 hc)
          have HO2 : Hid (O = if (decide (M.length = 4) && begB (hd tk.tail)) = true then .bad (hd tk.tail).2.2 5 else (f tk.tail).then fun t r => moreF f n ((M.map (·.1)) ++ [t]) r) := Lib.hid (by rw [HO.out]; simp only [moreF, hc, List.length_map]; rfl)
          clear hc HO
          generalize tk.tail = tk2 at *
          go_wp2_with fail
          refine HN.out.mono ?_
          rintro e w3 ⟨rfl, k1, k2⟩
          have RD3 := Lib.hid k1
          have OW3 := Lib.hid (own_ch OW.out k2 hr)
          have C4 := Lib.hid (CC.out.trans k2)
          clear k1 k2 HN RD OW CC
          have HML : Hid ((M.map (·.1)).length = M.length) := Lib.hid (by simp)
          by_cases h4 : M.length = 4
          · -- four arguments are read
            have hn0 : n = 0 := by omega
            subst hn0
            have d4 : ((M.length : Int) == 4) = true := by simp; omega
            have HBT := Lib.hid (bterm_any w3 r tk2 RD3.out)
            cases hbg : begB (hd tk2) with
            | true =>
              have HO3 : Hid (O = .bad (hd tk2).2.2 5) := Lib.hid (by rw [HO2.out, hbg, decide_eq_true h4]; rfl)
              rw [hbg] at HBT
              have HFY := Lib.hid (fun w' (k : Below w3.heap.size w3 w') => fail_yes w' r 5 tk2 (RD3.out.below k))
              clear hbg HO2
              go_wp2_with fail
              refine HBT.out.mono ?_
              rintro e w4 ⟨rfl, k⟩
              have HF2 := Lib.hid (HFY.out w4 k)
              have C5 := Lib.hid (C4.out.below k)
              clear k
              go_wp2_with fail
              refine HF2.out.mono ?_
              rintro e w5 ⟨rfl, k⟩
              have C6 := Lib.hid (C5.out.below k)
              clear k
              go_wp2_with fail
              exact ⟨rfl, Or.inr ⟨_, _, HO3.out, rfl, C6.out⟩⟩
            | false =>
              obtain ⟨a, er, hba⟩ := HB.out tk2 hbg
              have HO3 : Hid (O = .bad a er) := Lib.hid (by rw [HO2.out, hbg, hba]; simp [Out.then])
              have HBA := Lib.hid hba
              rw [hbg] at HBT
              have HFN := Lib.hid (fun w' => fail_no w' r 5)
              have HI := Lib.hid (fun w' (k : Below w3.heap.size w3 w') => IH.out w' tk2 (RD3.out.below k))
              clear hbg HO2 hba
              go_wp2_with fail
              refine HBT.out.mono ?_
              rintro e w4 ⟨rfl, k⟩
              have HI2 := Lib.hid (HI.out w4 k)
              have C5 := Lib.hid (C4.out.below k)
              clear k
              go_wp2_with fail
              refine (HFN.out _).mono ?_
              rintro e w5 ⟨rfl, rfl⟩
              go_wp2_with fail
              refine HI2.out.mono ?_
              rintro e w6 (⟨t', ts', p', c', hO', rfl, hs', hn', hR', hC'⟩ | ⟨a', er', hO', rfl, hC'⟩)
              · rw [HBA.out] at hO'
                cases hO'
              · have C6 := Lib.hid (C5.out.trans hC')
                rw [HBA.out] at hO'
                injection hO' with e1 e2
                subst e1 e2
                clear hC' HI2
                go_wp2_with fail
                exact ⟨rfl, Or.inr ⟨_, _, HO3.out, rfl, C6.out⟩⟩
          · have d4 : ((M.length : Int) == 4) = false := by simp; omega
            have HO3 : Hid (O = (f tk2).then fun t r => moreF f n ((M.map (·.1)) ++ [t]) r) := Lib.hid (by rw [HO2.out, decide_eq_false h4]; rfl)
            have HFN := Lib.hid (fun w' => fail_no w' r 5)
            have HI := Lib.hid (IH.out w3 tk2 RD3.out)
            have hv := Lib.hid OW3.out.1.lt
            have hb3 := C4.out.size
            clear HO2
            obtain ⟨n', hn'⟩ : ∃ n', n = n' + 1 := ⟨n - 1, by omega⟩
            subst hn'
            go_wp2_with fail
            refine (HFN.out _).mono ?_
            rintro e w5 ⟨rfl, rfl⟩
            go_wp2_with fail
            refine HI.out.mono ?_
            rintro e w6 (⟨t', ts', p', c', hO', rfl, hs', hn', hR', hC'⟩ | ⟨a', er', hO', rfl, hC'⟩)
            case inr =>
              have C6 := Lib.hid (C4.out.trans hC')
              have HO4 : Hid (O = .bad a' er') := Lib.hid (by rw [HO3.out, hO']; rfl)
              clear hC' HI hO'
              go_wp2_with fail
              exact ⟨rfl, Or.inr ⟨_, _, HO4.out, rfl, C6.out⟩⟩
            case inl =>
              have C6 := Lib.hid (C4.out.trans hC')
              have O6 := Lib.hid (own_ch OW3.out hC' hr)
              have R6 := Lib.hid hR'
              have S6 := Lib.hid hs'
              have N6 := Lib.hid hn'
              have HO4 : Hid (O = moreF f (n' + 1) (List.map (fun x : Tm × Value => x.1) (M ++ [(t', Value.slice p' t'.args.length c')])) ts') := Lib.hid (by rw [HO3.out, hO', List.map_append]; rfl)
              have A1 : M.length + 1 ≤ maxLen := by unfold maxLen; omega
              have A2 : (M.length + 1) * 40 ≤ 140737488355328 := by omega
              have hs6 := hC'.size
              have A4 : w.heap.size ≤ (w6.alloc (.cells #[.string t'.nm, .slice p' t'.args.length c'] 31)).heap.size := by rw [World.size_alloc]; omega
              clear hC' HI hO' hR' hs' hn'
              go_wp2_with (at_builtin; refine wpList_append_lies _ rfl _ _ 29 rfl w.heap.size 31 i0 (.agg #[.string ⟨#[]⟩, .slice none 0 0]) 2 40 Tryd.underlying29 hi hz0 hz1 hz2 rfl (by decide) (.slice va M.length vc) M.length (flatL M) rfl (O6.out.1.alloc _) ⟨w6.heap.size, 0, none⟩ 1 1 [.string t'.nm, .slice p' t'.args.length c'] rfl rfl (news2 _ _ _ _) (one2 _ _ _ _) (by decide) A1 A2 A4 (w6.heap.size + 1) (by simp) ?_; intro g5 cap5 w7 hown hgrow hat hlt5)
              have O7 := Lib.hid (O6.out.add S6.out N6.out hb3 (fun k hk => (hv.out k hk).2) hown hgrow hat)
              have C7 := Lib.hid ((C6.out.alloc _).grown hgrow (fun k hk => (hv.out k hk).1))
              have R7 : Hid (Rd w7 r ts') := Lib.hid ((R6.out.alloc _).grown hgrow (fun k hk => by have := (hv.out k hk).1; omega))
              clear hown hgrow hat
              go_wp2_with fail
              go_roundw
              case rel => exact ⟨M ++ [(t', .slice p' t'.args.length c')], n', ts', by simp; omega, HO4, O7, R7, C7⟩
              case measure => simp [lenOf]; omega
end ParC
end Go.Proofs.YtdalepdpobcpaaaDoor
