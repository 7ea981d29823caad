/- Texts laid together: ParC; ParD; ParK. Their own heads stand before each. -/
import Derived.Test.YtfdpelokiljigaaDoorPk8
import Derived.Deep.DeepCutAuto
/- The reader's term and arguments. No conditions but a reader in memory. -/
namespace Go.Proofs.YtfdpelokiljigaaDoor
open Go Go.RowKit
namespace ParC
open Kit LexM TermM TermI TermU LexP ParM ParA ParB
def lenOf : Value → Nat
  | .slice _ n _ => n
  | _ => 0
/-- What a method that reads a term leaves. -/
def TmR (r : Nat) (w : World) (o : Out Tm) (e : Ending) (w' : World) : Prop :=
  (∃ t ts p c, o = .good t ts ∧ e = .returned (.agg #[.string t.nm, .slice p t.args.length c]) ∧ SlIn (fun b => w.heap.size ≤ b ∧ b < w'.heap.size) w' t.args (.slice p t.args.length c) ∧ t.nm.size ≤ maxLen ∧ Rd w' r ts ∧ Ch r w w') ∨
  (∃ a er, o = .bad a er ∧ e = .panicked (PE a er) ∧ Ch r w w')
/-- What a method that reads a list of terms leaves. -/
def TsR (r : Nat) (w : World) (o : Out (List Tm)) (e : Ending) (w' : World) : Prop :=
  (∃ l ts p c, o = .good l ts ∧ e = .returned (.slice p l.length c) ∧ SlIn (fun b => w.heap.size ≤ b ∧ b < w'.heap.size) w' l (.slice p l.length c) ∧ Rd w' r ts ∧ Ch r w w') ∨
  (∃ a er, o = .bad a er ∧ e = .panicked (PE a er) ∧ Ch r w w')
theorem ret_sl {p : Option Addr} {n m c : Nat} (h : n = m) : Ending.returned (.slice p n c) = Ending.returned (.slice p m c) := by rw [h]
theorem own_one {base : Nat} {w : World} {t : Tm} {p : Option Addr} {c : Nat} (h : SlIn (fun b => base ≤ b ∧ b < w.heap.size) w t.args (.slice p t.args.length c)) (hn : t.nm.size ≤ maxLen) (hb : base ≤ w.heap.size) :
    Own base (w.alloc (.cells #[.string t.nm, .slice p t.args.length c] 24)) [(t, .slice p t.args.length c)] (.slice (some ⟨w.heap.size, 0, none⟩) 1 1) := by
  refine ⟨?_, fun b => base ≤ b ∧ b < w.heap.size, fun b hk => ⟨hk.1, by rw [World.size_alloc]; omega, fun e => ?_⟩, fun x hx => ?_⟩
  · have hh := World.ownsRow_lit (e := 24) (size := 2) (base := base) w #[.string t.nm, .slice p t.args.length c] 1 hb (by unfold maxLen; omega) rfl
    exact hh
  · have e' : w.heap.size = b := Option.some.inj e
    omega
  · obtain rfl := List.mem_singleton.1 hx
    exact ⟨h.frame fun b o hk => (below_alloc w _).cell (p := ⟨b, o, none⟩) hk.2, hn⟩
set_option maxRecDepth 100000 in
set_option maxHeartbeats 6400000 in
theorem args_any (f : List GTok → Out Tm) (hbad : ∀ ts, begB (hd ts) = false → ∃ a er, f ts = .bad a er) (L : Int) (r : Nat)
    (IH0 : ∀ (w : World) (ts : List GTok), Rd w r ts → Calls Tryd.prog 85 #[.pointer (some ⟨r, 0, none⟩), .int .i64 L] w (TmR r w (f ts)))
    (w : World) (ts : List GTok) (h : Rd w r ts) :
    Calls Tryd.prog 107 #[.pointer (some ⟨r, 0, none⟩), .int .i64 L] w (TsR r w (argsF f ts)) := by
  obtain ⟨i0, hi, hz0, hz1, hz2⟩ := info_parts Tryd.info28
  have IH := Lib.hid IH0
  have HB := Lib.hid hbad
  have hr := h.lt
  have HAR : Hid (argsF f ts = if isB (hd ts) sOpen = true then (f ts.tail).then fun t r => moreF f 4 [t] r else .good [] ts) := Lib.hid rfl
  generalize argsF f ts = O at *
  cases ho : isB (hd ts) sOpen with
  | false =>
    have HN := Lib.hid (acc_no w r ts sOpen h ho)
    have HR := Lib.hid h
    rw [ho] at HAR
    unfold TsR
    clear h IH0 hbad ho
    go_enter Tryd.func107, Tryd.ntmps107
    go_wp2_with fail
    refine HN.out.mono ?_
    rintro e w1 ⟨rfl, k⟩
    have K := Lib.hid k
    clear k
    go_wp2_with fail
    go_ret
    exact Or.inl ⟨[], ts, none, 0, by rw [HAR.out]; rfl, rfl, SlIn.none _ _, HR.out.below K.out, Ch.of K.out⟩
  | true =>
    have HN := Lib.hid (acc_yes w r ts sOpen h lit_ne.1 ho)
    rw [ho, if_pos rfl] at HAR
    clear h IH0 hbad ho
    generalize ts.tail = ts1 at *
    unfold TsR
    go_enter Tryd.func107, Tryd.ntmps107
    go_wp2_with fail
    refine HN.out.mono ?_
    rintro e w1 ⟨rfl, k1, k2⟩
    have I1 := Lib.hid (IH.out w1 ts1 k1)
    have C1 := Lib.hid k2
    clear k1 k2 HN
    go_wp2_with fail
    refine I1.out.mono ?_
    rintro e w2 (⟨t, ts2, p, c, hO, rfl, hs, hn, hR, hC⟩ | ⟨a, er, hO, rfl, hC⟩)
    case inr =>
      have HO := Lib.hid hO
      have C2 := Lib.hid (C1.out.trans hC)
      clear hO hC I1
      go_wp2_with fail
      exact ⟨rfl, Or.inr ⟨a, er, by rw [HAR.out, HO.out]; rfl, rfl, C2.out⟩⟩
    case inl =>
      have HO : Hid (O = moreF f 4 [t] ts2) := Lib.hid (by rw [HAR.out, hO]; rfl)
      have C2 := Lib.hid (C1.out.trans hC)
      have hsz := C1.out.size
      have S2 := hs.weaken (ok' := fun b => w.heap.size ≤ b ∧ b < w2.heap.size) (fun b hb => ⟨Nat.le_trans hsz hb.1, hb.2⟩)
      have O2 := Lib.hid (own_one (base := w.heap.size) S2 hn C2.out.size)
      have R2 := Lib.hid (hR.alloc (.cells #[.string t.nm, .slice p t.args.length c] 24))
      have C3 := Lib.hid (C2.out.alloc (.cells #[.string t.nm, .slice p t.args.length c] 24))
      clear hO hC hs hn hR S2 I1 C1 C2 HAR
      go_wp2_with fail
      go_loopw [5] (fun v wx => ∃ (M : List (Tm × Value)) (n : Nat) (tk : List GTok), M.length + n = 4 ∧ Hid (O = moreF f (n + 1) (M.map (·.1)) tk) ∧ Hid (Own w.heap.size wx M v) ∧ Hid (Rd wx r tk) ∧ Hid (Ch r w wx)) (fun v _ => 5 - lenOf v)
      case atStart => exact ⟨[(t, .slice p t.args.length c)], 3, ts2, rfl, HO, O2, R2, C3⟩
      case round =>
        clear O2 R2 C3 HO
        obtain ⟨M, n, tk, hMn, HO, OW, RD, CC⟩ := hrel
        obtain ⟨va, vc, hv⟩ := OW.out.form
        subst hv
        cases hc : isB (hd tk) sComma with
        | false =>
          have HN := Lib.hid (acc_no wr r tk sComma RD.out hc)
          have HO2 : Hid (O = if isB (hd tk) sShut = true then .good (M.map (·.1)) tk.tail else .bad (hd tk).2.2 1) := Lib.hid (by rw [HO.out]; simp only [moreF, hc]; rfl)
          clear hc
          go_wp2_with fail
          refine HN.out.mono ?_
          rintro e w3 ⟨rfl, k⟩
          have RD3 := Lib.hid (RD.out.below k)
          have OW3 := Lib.hid (OW.out.below k)
          have C4 := Lib.hid (CC.out.below k)
          clear k HN
          cases hd2 : isB (hd tk) sShut with
          | false =>
            have HE := Lib.hid (exp_no w3 r tk sShut RD3.out hd2)
            have HO3 : Hid (O = .bad (hd tk).2.2 1) := Lib.hid (by rw [HO2.out, hd2]; rfl)
            clear hd2
            go_wp2_with fail
            refine HE.out.mono ?_
            rintro e w4 ⟨rfl, k⟩
            have C5 := Lib.hid (C4.out.trans k)
            clear k
            go_wp2_with fail
            exact ⟨rfl, Or.inr ⟨_, _, HO3.out, rfl, C5.out⟩⟩
          | true =>
            have HE := Lib.hid (exp_yes w3 r tk sShut RD3.out lit_ne.2.1 hd2)
            have HO3 : Hid (O = .good (M.map (·.1)) tk.tail) := Lib.hid (by rw [HO2.out, hd2]; rfl)
            have hml : (M.map (·.1)).length = M.length := by simp
            clear hd2
            go_wp2_with fail
            refine HE.out.mono ?_
            rintro e w4 ⟨rfl, k1, k2⟩
            have C5 := Lib.hid (C4.out.trans k2)
            have R5 := Lib.hid k1
            have S5 := Lib.hid ((own_ch OW3.out k2 hr).slin)
            have HML := Lib.hid hml
            clear k1 k2 hml
            go_wp2_with fail
            go_ret
            exact Or.inl ⟨_, _, va, vc, HO3.out, ret_sl HML.out.symm, by rw [HML.out]; exact S5.out, R5.out, C5.out⟩
        | true =>
          have HN := Lib.hid (acc_yes wr r tk sComma RD.out lit_ne.2.2.1 hc)
          have HO2 : Hid (O = if (decide (M.length = 4) && begB (hd tk.tail)) = true then .bad (hd tk.tail).2.2 5 else (f tk.tail).then fun t r => moreF f n ((M.map (·.1)) ++ [t]) r) := Lib.hid (by rw [HO.out]; simp only [moreF, hc, List.length_map]; rfl)
          clear hc HO
          generalize tk.tail = tk2 at *
          go_wp2_with fail
          refine HN.out.mono ?_
          rintro e w3 ⟨rfl, k1, k2⟩
          have RD3 := Lib.hid k1
          have OW3 := Lib.hid (own_ch OW.out k2 hr)
          have C4 := Lib.hid (CC.out.trans k2)
          clear k1 k2 HN RD OW CC
          have HML : Hid ((M.map (·.1)).length = M.length) := Lib.hid (by simp)
          by_cases h4 : M.length = 4
          · -- four arguments are read
            have hn0 : n = 0 := by omega
            subst hn0
            have d4 : ((M.length : Int) == 4) = true := by simp; omega
            have HBT := Lib.hid (bterm_any w3 r tk2 RD3.out)
            cases hbg : begB (hd tk2) with
            | true =>
              have HO3 : Hid (O = .bad (hd tk2).2.2 5) := Lib.hid (by rw [HO2.out, hbg, decide_eq_true h4]; rfl)
              rw [hbg] at HBT
              have HFY := Lib.hid (fun w' (k : Below w3.heap.size w3 w') => fail_yes w' r 5 tk2 (RD3.out.below k))
              clear hbg HO2
              go_wp2_with fail
              refine HBT.out.mono ?_
              rintro e w4 ⟨rfl, k⟩
              have HF2 := Lib.hid (HFY.out w4 k)
              have C5 := Lib.hid (C4.out.below k)
              clear k
              go_wp2_with fail
              refine HF2.out.mono ?_
              rintro e w5 ⟨rfl, k⟩
              have C6 := Lib.hid (C5.out.below k)
              clear k
              go_wp2_with fail
              exact ⟨rfl, Or.inr ⟨_, _, HO3.out, rfl, C6.out⟩⟩
            | false =>
              obtain ⟨a, er, hba⟩ := HB.out tk2 hbg
              have HO3 : Hid (O = .bad a er) := Lib.hid (by rw [HO2.out, hbg, hba]; simp [Out.then])
              have HBA := Lib.hid hba
              rw [hbg] at HBT
              have HFN := Lib.hid (fun w' => fail_no w' r 5)
              have HI := Lib.hid (fun w' (k : Below w3.heap.size w3 w') => IH.out w' tk2 (RD3.out.below k))
              clear hbg HO2 hba
              go_wp2_with fail
              refine HBT.out.mono ?_
              rintro e w4 ⟨rfl, k⟩
              have HI2 := Lib.hid (HI.out w4 k)
              have C5 := Lib.hid (C4.out.below k)
              clear k
              go_wp2_with fail
              refine (HFN.out _).mono ?_
              rintro e w5 ⟨rfl, rfl⟩
              go_wp2_with fail
              refine HI2.out.mono ?_
              rintro e w6 (⟨t', ts', p', c', hO', rfl, hs', hn', hR', hC'⟩ | ⟨a', er', hO', rfl, hC'⟩)
              · rw [HBA.out] at hO'
                cases hO'
              · have C6 := Lib.hid (C5.out.trans hC')
                rw [HBA.out] at hO'
                injection hO' with e1 e2
                subst e1 e2
                clear hC' HI2
                go_wp2_with fail
                exact ⟨rfl, Or.inr ⟨_, _, HO3.out, rfl, C6.out⟩⟩
          · have d4 : ((M.length : Int) == 4) = false := by simp; omega
            have HO3 : Hid (O = (f tk2).then fun t r => moreF f n ((M.map (·.1)) ++ [t]) r) := Lib.hid (by rw [HO2.out, decide_eq_false h4]; rfl)
            have HFN := Lib.hid (fun w' => fail_no w' r 5)
            have HI := Lib.hid (IH.out w3 tk2 RD3.out)
            have hv := Lib.hid OW3.out.1.lt
            have hb3 := C4.out.size
            clear HO2
            obtain ⟨n', hn'⟩ : ∃ n', n = n' + 1 := ⟨n - 1, by omega⟩
            subst hn'
            go_wp2_with fail
            refine (HFN.out _).mono ?_
            rintro e w5 ⟨rfl, rfl⟩
            go_wp2_with fail
            refine HI.out.mono ?_
            rintro e w6 (⟨t', ts', p', c', hO', rfl, hs', hn', hR', hC'⟩ | ⟨a', er', hO', rfl, hC'⟩)
            case inr =>
              have C6 := Lib.hid (C4.out.trans hC')
              have HO4 : Hid (O = .bad a' er') := Lib.hid (by rw [HO3.out, hO']; rfl)
              clear hC' HI hO'
              go_wp2_with fail
              exact ⟨rfl, Or.inr ⟨_, _, HO4.out, rfl, C6.out⟩⟩
            case inl =>
              have C6 := Lib.hid (C4.out.trans hC')
              have O6 := Lib.hid (own_ch OW3.out hC' hr)
              have R6 := Lib.hid hR'
              have S6 := Lib.hid hs'
              have N6 := Lib.hid hn'
              have HO4 : Hid (O = moreF f (n' + 1) (List.map (fun x : Tm × Value => x.1) (M ++ [(t', Value.slice p' t'.args.length c')])) ts') := Lib.hid (by rw [HO3.out, hO', List.map_append]; rfl)
              have A1 : M.length + 1 ≤ maxLen := by unfold maxLen; omega
              have A2 : (M.length + 1) * 40 ≤ 140737488355328 := by omega
              have hs6 := hC'.size
              have A4 : w.heap.size ≤ (w6.alloc (.cells #[.string t'.nm, .slice p' t'.args.length c'] 24)).heap.size := by rw [World.size_alloc]; omega
              clear hC' HI hO' hR' hs' hn'
              go_wp2_with (at_builtin; refine wpList_append_lies _ rfl _ _ 22 rfl w.heap.size 24 i0 (.agg #[.string ⟨#[]⟩, .slice none 0 0]) 2 40 Tryd.underlying22 hi hz0 hz1 hz2 rfl (by decide) (.slice va M.length vc) M.length (flatL M) rfl (O6.out.1.alloc _) ⟨w6.heap.size, 0, none⟩ 1 1 [.string t'.nm, .slice p' t'.args.length c'] rfl rfl (news2 _ _ _ _) (one2 _ _ _ _) (by decide) A1 A2 A4 (w6.heap.size + 1) (by simp) ?_; intro g5 cap5 w7 hown hgrow hat hlt5)
              have O7 := Lib.hid (O6.out.add S6.out N6.out hb3 (fun k hk => (hv.out k hk).2) hown hgrow hat)
              have C7 := Lib.hid ((C6.out.alloc _).grown hgrow (fun k hk => (hv.out k hk).1))
              have R7 : Hid (Rd w7 r ts') := Lib.hid ((R6.out.alloc _).grown hgrow (fun k hk => by have := (hv.out k hk).1; omega))
              clear hown hgrow hat
              go_wp2_with fail
              go_roundw
              case rel => exact ⟨M ++ [(t', .slice p' t'.args.length c')], n', ts', by simp; omega, HO4, O7, R7, C7⟩
              case measure => simp [lenOf]; omega
end ParC
end Go.Proofs.YtfdpelokiljigaaDoor
/- The reader's term. No conditions but a reader in memory. -/
namespace Go.Proofs.YtfdpelokiljigaaDoor
open Go Go.RowKit
namespace ParD
open Kit LexM TermM TermI TermU LexP ParM ParA ParB ParC
theorem cell_set {w : World} {g o : Nat} {p : Addr} (h : g ≠ p.block) (u : Value) : (w.setCell p u).cell? ⟨g, o, none⟩ = w.cell? ⟨g, o, none⟩ :=
  World.cell?_of_block (w := w) (a := ⟨g, o, none⟩) (Below.heap_setCell _ _ _ _ h)
theorem set_size (w : World) (p : Addr) (u : Value) : (w.setCell p u).heap.size = w.heap.size := by simp [World.setCell]
theorem termF_hbad (d : Nat) : ∀ ts, begB (hd ts) = false → ∃ a er, termF d ts = .bad a er := fun _ h => ⟨_, _, termF_bad h⟩
set_option maxRecDepth 100000 in
set_option maxHeartbeats 6400000 in
theorem tm_step (d : Nat) (L : Int) (hL : L = 5 - (d : Int)) (hd4 : d ≤ 4) (r : Nat)
    (IH : ∀ d', d = d' + 1 → ∀ (w : World) (ts : List GTok), Rd w r ts → Calls Tryd.prog 85 #[.pointer (some ⟨r, 0, none⟩), .int .i64 (L + 1)] w (TmR r w (termF d' ts)))
    (w : World) (ts : List GTok) (h : Rd w r ts) :
    Calls Tryd.prog 85 #[.pointer (some ⟨r, 0, none⟩), .int .i64 L] w (TmR r w (termF d ts)) := by
  obtain ⟨W1, hW1⟩ : ∃ W1, W1 = w.alloc (.cells #[.string ⟨#[]⟩, .slice none 0 0] 24) := ⟨_, rfl⟩
  have G1 : Below w.heap.size w W1 := by rw [hW1]; exact below_alloc w _
  have H1 : Has W1 w.heap.size #[.string ⟨#[]⟩, .slice none 0 0] := by rw [hW1]; exact Has.new _ _ _
  have hr := h.lt
  have R1 := h.below G1
  have HBT := Lib.hid (bterm_any W1 r ts R1)
  cases hbg : begB (hd ts) with
  | false =>
    have HO : Hid (termF d ts = .bad (hd ts).2.2 1) := Lib.hid (termF_bad hbg)
    rw [hbg] at HBT
    have HFY := Lib.hid (fun w' (k : Below W1.heap.size W1 w') => fail_yes w' r 1 ts (R1.below k))
    have C1 := Lib.hid (Ch.of (r := r) G1)
    generalize termF d ts = O at *
    clear hbg h R1 G1 H1 hL IH
    unfold TmR
    go_enter Tryd.func85, Tryd.ntmps85
    go_upto_region 1 with fail
    rw [← hW1]
    clear hW1
    go_wp2_with fail
    refine HBT.out.mono ?_
    rintro e w2 ⟨rfl, k⟩
    have HF2 := Lib.hid (HFY.out w2 k)
    have C2 := Lib.hid (C1.out.below k)
    clear k HFY HBT
    go_wp2_with fail
    refine HF2.out.mono ?_
    rintro e w3 ⟨rfl, k⟩
    have C3 := Lib.hid (C2.out.below k)
    clear k HF2
    go_wp2_with fail
    exact ⟨rfl, Or.inr ⟨_, _, HO.out, rfl, C3.out⟩⟩
  | true =>
    rw [hbg] at HBT
    have HFN := Lib.hid (fun w' er => fail_no w' r er)
    have C1 := Lib.hid (Ch.of (r := r) G1)
    cases d with
    | zero =>
      have HO : Hid (termF 0 ts = .bad (hd ts).2.2 3) := Lib.hid (by simp [termF, hbg])
      have HFY := Lib.hid (fun w' (k : Below W1.heap.size W1 w') => fail_yes w' r 3 ts (R1.below k))
      have hL5 : L = 5 := by omega
      subst hL5
      generalize termF 0 ts = O at *
      clear hbg h R1 G1 H1 hL IH hd4
      unfold TmR
      go_enter Tryd.func85, Tryd.ntmps85
      go_upto_region 1 with fail
      rw [← hW1]
      clear hW1
      go_wp2_with fail
      refine HBT.out.mono ?_
      rintro e w2 ⟨rfl, k⟩
      have HF2 := Lib.hid (HFY.out w2 k)
      have C2 := Lib.hid (C1.out.below k)
      clear k HFY HBT
      go_wp2_with fail
      refine (HFN.out _ _).mono ?_
      rintro e w3 ⟨rfl, rfl⟩
      go_wp2_with fail
      refine HF2.out.mono ?_
      rintro e w3 ⟨rfl, k⟩
      have C3 := Lib.hid (C2.out.below k)
      clear k HF2
      go_wp2_with fail
      exact ⟨rfl, Or.inr ⟨_, _, HO.out, rfl, C3.out⟩⟩
    | succ d =>
      have HO : Hid (termF (d + 1) ts = if (hd ts).1 = 1 then (argsF (termF d) ts.tail).then fun l r => .good (.mk (hd ts).2.1 l) r else .good (.mk (hd ts).2.1 []) ts.tail) := Lib.hid (by simp [termF, hbg])
      have HP := Lib.hid (fun w1 (k : Below W1.heap.size W1 w1) => pass_any w1 r ts (R1.below k) (Or.inl (begB_ne hbg)))
      have HN := Lib.hid h.nm
      have HA := Lib.hid (fun w' ts' (hR : Rd w' r ts') => args_any (termF d) (termF_hbad d) (L + 1) r (IH d rfl) w' ts' hR)
      have hL4 : decide (4 < L) = false := by simp; omega
      have hL1 : 1 ≤ L := by omega
      have hL2 : L ≤ 4 := by omega
      have H1' := Lib.hid H1
      have hsz1 : W1.heap.size = w.heap.size + 1 := by rw [hW1]; simp
      have HS1 := Lib.hid hsz1
      unfold Psd at HP
      generalize termF (d + 1) ts = O at *
      generalize hd ts = t at *
      generalize ts.tail = ts2 at *
      have hra : r ≠ w.heap.size := by omega
      clear hbg h R1 G1 H1 hL IH hd4 hsz1
      unfold TmR
      go_enter Tryd.func85, Tryd.ntmps85
      go_upto_region 1 with fail
      rw [← hW1]
      clear hW1
      go_wp2_with fail
      refine HBT.out.mono ?_
      rintro e w2 ⟨rfl, k⟩
      have HP2 := Lib.hid (HP.out w2 k)
      have C2 := Lib.hid (C1.out.below k)
      have H2 := Lib.hid (H1'.out.step0 k)
      have hz2 := k.size
      clear k HP HBT
      go_wp2_with fail
      refine (HFN.out _ _).mono ?_
      rintro e w3 ⟨rfl, rfl⟩
      go_wp2_with fail
      refine (HFN.out _ _).mono ?_
      rintro e w3 ⟨rfl, rfl⟩
      go_wp2_with fail
      refine HP2.out.mono ?_
      rintro e w4 ⟨rfl, k1, k2⟩
      have C4 := Lib.hid (C2.out.trans k2)
      have H4 := Lib.hid (k2.has H2.out (Ne.symm hra))
      have R4 := Lib.hid k1
      have hz4 : w.heap.size + 1 ≤ w4.heap.size := by have := k2.size; have := HS1.out; omega
      clear k1 k2 HP2 H2
      by_cases hk1 : t.1 = 1
      · have HO2 : Hid (O = (argsF (termF d) ts2).then fun l r => .good (.mk t.2.1 l) r) := Lib.hid (by rw [HO.out, if_pos hk1])
        have hkb : (t.1 == 1) = true := by simpa using hk1
        have W5 := Lib.hid (HA.out ((w4.alloc (.cells #[.int .i64 t.1, .string t.2.1, .int .i64 t.2.2] 76)).alloc (.cells #[.string t.2.1, .slice none 0 0] 24)) ts2 ((R4.out.alloc _).alloc _))
        unfold TsR at W5
        clear hk1 HO
        go_wp2_with fail
        refine W5.out.mono ?_
        rintro e w6 (⟨l, ts6, p, c, hO, rfl, hs, hR, hC⟩ | ⟨a, er, hO, rfl, hC⟩)
        case inr =>
          have HO3 : Hid (O = .bad a er) := Lib.hid (by rw [HO2.out, hO]; rfl)
          have C6 := Lib.hid (((C4.out.alloc _).alloc _).trans hC)
          clear hO hC W5
          go_wp2_with fail
          exact ⟨rfl, Or.inr ⟨_, _, HO3.out, rfl, C6.out⟩⟩
        case inl =>
          have HO3 : Hid (O = .good (.mk t.2.1 l) ts6) := Lib.hid (by rw [HO2.out, hO]; rfl)
          have C6 := Lib.hid (((C4.out.alloc _).alloc _).trans hC)
          have H6 := hC.has ((H4.out.alloc _).alloc _) (Ne.symm hra)
          have T6 := hC.has (Has.new1 w4 _ _ _) (by omega)
          have R6 := Lib.hid hR
          have S6 := Lib.hid hs
          have hz6 := hC.size
          rw [World.size_alloc, World.size_alloc] at hz6
          have H6' := Lib.hid H6
          have T6' := Lib.hid T6
          obtain ⟨x1, x2, x3, x4, x5⟩ := H6.two
          obtain ⟨y1, y2, y3, y4, y5⟩ := T6.two
          clear hO hC W5 hs hR H6 T6 H4 R4 HA
          have Z6 := Lib.hid hz6
          have Z4 := Lib.hid hz4
          clear hz6
          go_wp2_with fail
          have hz6 := Z6.out
          refine bodyPost_ret (v := .agg #[.string t.2.1, .slice p l.length c]) (by simp [results, Tryd.results85, go_sem, x1, x2]) rfl (Or.inl ⟨.mk t.2.1 l, ts6, p, c, HO3.out, rfl, ?_, HN.out, ?_, ?_⟩)
          · refine (S6.out.frame (fun b o hk => ?_)).weaken (fun b hb => ?_)
            · have hk1 := hk.1
              rw [World.size_alloc, World.size_alloc] at hk1
              exact (cell_set (by show b ≠ w.heap.size; omega) _).trans ((cell_set (by show b ≠ w.heap.size; omega) _).trans (cell_set (by show b ≠ w4.heap.size + 1; omega) _))
            · have hb1 := hb.1
              rw [World.size_alloc, World.size_alloc] at hb1
              exact ⟨by omega, by rw [set_size, set_size, set_size]; exact hb.2⟩
          · exact ((R6.out.far (by show r < w4.heap.size + 1; omega) _).far (by exact hr) _).far (by exact hr) _
          · exact ((C6.out.put (Or.inr (by show w.heap.size ≤ w4.heap.size + 1; omega)) _).put (Or.inr (by exact Nat.le_refl _)) _).put (Or.inr (by exact Nat.le_refl _)) _
      · have HO2 : Hid (O = .good (.mk t.2.1 []) ts2) := Lib.hid (by rw [HO.out, if_neg hk1])
        have hkb : (t.1 == 1) = false := by simpa using hk1
        obtain ⟨x1, x2, x3, x4, x5⟩ := H4.out.two
        clear hk1 HO HA
        go_wp2_with fail
        refine bodyPost_ret (v := .agg #[.string t.2.1, .slice none 0 0]) (by simp [results, Tryd.results85, go_sem, x1, x2, x5]) rfl (Or.inl ⟨.mk t.2.1 [], ts2, none, 0, HO2.out, rfl, SlIn.none _ _, HN.out, ?_, ?_⟩)
        · exact (((R4.out.far (by exact hr) _).far (by exact hr) _).alloc _).alloc _
        · exact (((C4.out.put (Or.inr (by exact Nat.le_refl _)) _).put (Or.inr (by exact Nat.le_refl _)) _).alloc _).alloc _
theorem tm_any (d : Nat) : ∀ (L : Int), L = 5 - (d : Int) → d ≤ 4 → ∀ (r : Nat) (w : World) (ts : List GTok), Rd w r ts →
    Calls Tryd.prog 85 #[.pointer (some ⟨r, 0, none⟩), .int .i64 L] w (TmR r w (termF d ts)) := by
  induction d with
  | zero => exact fun L hL hd r w ts h => tm_step 0 L hL hd r (fun d' e => by omega) w ts h
  | succ d ih => exact fun L hL hd r w ts h => tm_step (d + 1) L hL hd r (fun d' e w ts h => by
      obtain rfl : d = d' := by omega
      exact ih (L + 1) (by omega) (by omega) r w ts h) w ts h
/-- The term at the first level. -/
theorem tm_top (r : Nat) (w : World) (ts : List GTok) (h : Rd w r ts) :
    Calls Tryd.prog 85 #[.pointer (some ⟨r, 0, none⟩), .int .i64 1] w (TmR r w (termF 4 ts)) := tm_any 4 1 (by decide) (by decide) r w ts h
end ParD
end Go.Proofs.YtfdpelokiljigaaDoor
/- Rows of literals and of rules in memory (three cells each, with lists behind them). No conditions. -/
namespace Go.Proofs.YtfdpelokiljigaaDoor
open Go Go.RowKit
namespace ParK
open Kit LexM TermM TermI TermU LexP ParM ParA
/-- A kind of elements of three cells. -/
structure Kd (α : Type) where
  ty : TypeId
  cells : α → List Value
  inn : (Nat → Prop) → World → α → Prop
  len : ∀ x, (cells x).length = 3
  keep : ∀ {ok : Nat → Prop} {w w' : World} {x : α}, inn ok w x → (∀ b o, ok b → w'.cell? ⟨b, o, none⟩ = w.cell? ⟨b, o, none⟩) → inn ok w' x
  wide : ∀ {ok ok' : Nat → Prop} {w : World} {x : α}, inn ok w x → (∀ b, ok b → ok' b) → inn ok' w x
def Kd.flat {α : Type} (K : Kd α) (L : List α) : List Value := L.flatMap K.cells
section
variable {α : Type} {K : Kd α}
theorem flat_app (a b : List α) : K.flat (a ++ b) = K.flat a ++ K.flat b := by simp [Kd.flat]
theorem flat_one (a : α) : K.flat [a] = K.cells a := by simp [Kd.flat]
theorem flat_len (L : List α) : (K.flat L).length = L.length * 3 := by
  induction L with
  | nil => rfl
  | cons a L ih =>
    have := K.len a
    simp only [Kd.flat, List.flatMap_cons, List.length_append, List.length_cons] at ih ⊢
    omega
theorem flat_get : ∀ (L : List α) (i : Nat) (x : α), L[i]? = some x → ∀ (j : Nat) (u : Value), (K.cells x)[j]? = some u → (K.flat L)[i * 3 + j]? = some u
  | [], i, x, h => by simp at h
  | a :: L, 0, x, h => by
    intro j u hu
    simp at h
    subst h
    have hj := (List.getElem?_eq_some_iff.1 hu).1
    simp only [Kd.flat, List.flatMap_cons]
    rw [List.getElem?_append_left (by omega), show 0 * 3 + j = j by omega]
    exact hu
  | a :: L, i + 1, x, h => by
    intro j u hu
    have ih := flat_get L i x (by simpa using h) j u hu
    have hl := K.len a
    simp only [Kd.flat, List.flatMap_cons] at ih ⊢
    rw [List.getElem?_append_right (by omega), show (i + 1) * 3 + j - (K.cells a).length = i * 3 + j by omega]
    exact ih
/-- A row of the call's own that holds the elements; what is behind them lies in other blocks from base on. -/
def OwnG (K : Kd α) (base : Nat) (w : World) (L : List α) (v : Value) : Prop :=
  w.ownsRow base K.ty 3 v L.length (K.flat L) ∧ ∃ ok : Nat → Prop, (∀ b, ok b → base ≤ b ∧ b < w.heap.size ∧ v.ownBlock ≠ some b) ∧ ∀ x ∈ L, K.inn ok w x
/-- A slice value that holds the elements in blocks of a kind. -/
def RowG (K : Kd α) (ok : Nat → Prop) (w : World) (L : List α) (v : Value) : Prop :=
  ∃ p c, v = .slice p L.length c ∧ L.length ≤ c ∧ c ≤ maxLen ∧ (∀ x ∈ L, K.inn ok w x) ∧ (0 < L.length → ∃ g o, p = some ⟨g, o, none⟩ ∧ ok g ∧ ∀ i x, L[i]? = some x → ∀ j u, (K.cells x)[j]? = some u → w.cell? ⟨g, o + i * 3 + j, none⟩ = some u)
variable {ok ok' : Nat → Prop} {base : Nat} {w w' : World} {L : List α} {v : Value}
theorem RowG.nil (ok : Nat → Prop) (w : World) : RowG K ok w [] (.slice none 0 0) := ⟨none, 0, rfl, Nat.le_refl _, Nat.zero_le _, fun x h => by simp at h, fun h => by simp at h⟩
theorem RowG.keep (h : RowG K ok w L v) (hf : ∀ b o, ok b → w'.cell? ⟨b, o, none⟩ = w.cell? ⟨b, o, none⟩) : RowG K ok w' L v := by
  obtain ⟨p, c, h1, h2, h3, h4, h5⟩ := h
  refine ⟨p, c, h1, h2, h3, fun x hx => K.keep (h4 x hx) hf, fun hl => ?_⟩
  obtain ⟨g, o, e1, e2, e3⟩ := h5 hl
  exact ⟨g, o, e1, e2, fun i x hx j u hu => (hf _ _ e2).trans (e3 i x hx j u hu)⟩
theorem RowG.wide (h : RowG K ok w L v) (hk : ∀ b, ok b → ok' b) : RowG K ok' w L v := by
  obtain ⟨p, c, h1, h2, h3, h4, h5⟩ := h
  refine ⟨p, c, h1, h2, h3, fun x hx => K.wide (h4 x hx) hk, fun hl => ?_⟩
  obtain ⟨g, o, e1, e2, e3⟩ := h5 hl
  exact ⟨g, o, e1, hk _ e2, e3⟩
theorem OwnG.nil (base : Nat) (w : World) : OwnG K base w [] (.slice none 0 0) :=
  ⟨⟨rfl, Or.inl ⟨rfl, rfl⟩⟩, fun _ => False, fun b h => h.elim, fun x h => by simp at h⟩
theorem OwnG.form (h : OwnG K base w L v) : ∃ a c, v = .slice a L.length c := by
  rcases h.1.2 with ⟨e, hz⟩ | ⟨g, cap, cur, e, _⟩
  · exact ⟨none, 0, by rw [e, hz]⟩
  · exact ⟨_, cap, e⟩
theorem OwnG.ch {r : Nat} (h : OwnG K base w L v) (g : Ch r w w') (hr : r < base) : OwnG K base w' L v := by
  obtain ⟨h1, ok, h2, h3⟩ := h
  have hl := h1.lt
  refine ⟨⟨h1.1, ?_⟩, ok, fun b hk => ⟨(h2 b hk).1, Nat.lt_of_lt_of_le (h2 b hk).2.1 g.size, (h2 b hk).2.2⟩, fun x hx => K.keep (h3 x hx) fun b o hk => g.cell (h2 b hk).2.1 (by have := (h2 b hk).1; omega)⟩
  rcases h1.2 with h | ⟨k, cap, cur, e1, e2, e3, e4⟩
  · exact Or.inl h
  · exact Or.inr ⟨k, cap, cur, e1, e2, (g.block k (hl k (by rw [e1]; rfl)).2 (fun e => by have := Option.some.inj e; omega)).trans e3, e4⟩
theorem OwnG.add {w2 w3 : World} {o : Obj} {lo g cap : Nat} {x : α} (h : OwnG K base w2 L v) (hs : K.inn (fun b => lo ≤ b ∧ b < w2.heap.size) w2 x) (hlo : base ≤ lo) (hv : ∀ k, v.ownBlock = some k → k < lo)
    (hown : w3.ownsRow base K.ty 3 (.slice (some ⟨g, 0, none⟩) (L.length + 1) cap) (L.length + 1) (K.flat L ++ K.cells x)) (hgrow : (w2.alloc o).grownBy w3 v.ownBlock) (hat : v.ownBlock = some g ∨ g = w2.heap.size + 1) :
    OwnG K base w3 (L ++ [x]) (.slice (some ⟨g, 0, none⟩) (L.length + 1) cap) := by
  obtain ⟨h1, ok, h2, h3⟩ := h
  have hsz : w2.heap.size + 1 ≤ w3.heap.size := by have := hgrow.size; simpa using this
  have fr : ∀ b o, b < w2.heap.size → v.ownBlock ≠ some b → w3.cell? ⟨b, o, none⟩ = w2.cell? ⟨b, o, none⟩ := fun b o hb hne => by
    refine World.cell?_of_block (w := w2) (a := ⟨b, o, none⟩) ?_
    exact (hgrow.block b (by simp; omega) (fun e => hne e.symm)).trans (Below.heap_alloc _ _ _ hb)
  refine ⟨by rw [List.length_append, flat_app, flat_one]; exact hown, fun b => ok b ∨ (lo ≤ b ∧ b < w2.heap.size), fun b hk => ?_, fun y hy => ?_⟩
  · rcases hk with hk | hk
    · obtain ⟨a1, a2, a3⟩ := h2 b hk
      refine ⟨a1, by omega, ?_⟩
      intro e
      have e' : g = b := by simpa [Value.ownBlock] using e
      rcases hat with h | h
      · exact a3 (by rw [h, e'])
      · omega
    · refine ⟨by omega, by omega, ?_⟩
      intro e
      have e' : g = b := by simpa [Value.ownBlock] using e
      rcases hat with h | h
      · have := hv g h; omega
      · omega
  · rcases List.mem_append.1 hy with hy | hy
    · exact K.wide (K.keep (h3 y hy) fun b o hk => fr b o (h2 b hk).2.1 (h2 b hk).2.2) fun b hk => Or.inl hk
    · obtain rfl := List.mem_singleton.1 hy
      exact K.wide (K.keep hs fun b o hk => fr b o hk.2 (fun e => by have := hv b e; omega)) fun b hk => Or.inr hk
theorem OwnG.row (h : OwnG K base w L v) : RowG K (fun b => base ≤ b ∧ b < w.heap.size) w L v := by
  obtain ⟨h1, ok, h2, h3⟩ := h
  have hl := h1.lt
  have h3' : ∀ x ∈ L, K.inn (fun b => base ≤ b ∧ b < w.heap.size) w x := fun x hx => K.wide (h3 x hx) fun b hk => ⟨(h2 b hk).1, (h2 b hk).2.1⟩
  rcases h1.2 with ⟨e, hz⟩ | ⟨g, cap, cur, e, e2, e3, e4, e5, _⟩
  · exact ⟨none, 0, by rw [e, hz], by omega, Nat.zero_le _, h3', fun h => by omega⟩
  · subst e
    refine ⟨_, cap, rfl, e4, e5, h3', fun _ => ⟨g, 0, rfl, hl g rfl, fun i x hx j u hu => ?_⟩⟩
    have hi := (List.getElem?_eq_some_iff.1 hx).1
    have hj := (List.getElem?_eq_some_iff.1 hu).1
    rw [K.len] at hj
    rw [show 0 + i * 3 + j = i * 3 + j by omega]
    exact (h1.cellAt _ (by omega)).trans (flat_get L i x hx j u hu)
theorem OwnG.one {x : α} (h : K.inn (fun b => base ≤ b ∧ b < w.heap.size) w x) (hb : base ≤ w.heap.size) :
    OwnG K base (w.alloc (.cells (K.cells x).toArray K.ty)) [x] (.slice (some ⟨w.heap.size, 0, none⟩) 1 1) := by
  refine ⟨?_, fun b => base ≤ b ∧ b < w.heap.size, fun b hk => ⟨hk.1, by rw [World.size_alloc]; omega, fun e => ?_⟩, fun y hy => ?_⟩
  · have hh := World.ownsRow_lit (e := K.ty) (size := 3) (base := base) w (K.cells x).toArray 1 hb (by unfold maxLen; omega) (by simp [K.len])
    rw [flat_one]
    simpa using hh
  · have e' : w.heap.size = b := Option.some.inj e
    omega
  · obtain rfl := List.mem_singleton.1 hy
    exact K.keep h fun b o hk => (below_alloc w _).cell (p := ⟨b, o, none⟩) hk.2
theorem rowg_ch {r lo : Nat} (h : RowG K (fun k => lo ≤ k ∧ k < w.heap.size) w L v) (g : Ch r w w') (hr : r < lo) : RowG K (fun k => lo ≤ k ∧ k < w'.heap.size) w' L v :=
  (h.keep fun k _ hk => g.cell hk.2 (by omega)).wide fun k hk => ⟨hk.1, Nat.lt_of_lt_of_le hk.2 g.size⟩
end
/-- Literals. -/
def KL : Kd (Lt × Value) where
  ty := 32
  cells x := [.bool x.1.1, .string x.1.2.nm, x.2]
  inn ok w x := SlIn ok w x.1.2.args x.2 ∧ x.1.2.nm.size ≤ maxLen
  len _ := rfl
  keep h hf := ⟨h.1.frame hf, h.2⟩
  wide h hk := ⟨h.1.weaken hk, h.2⟩
def LIn (ok : Nat → Prop) (w : World) (l : List Lt) (v : Value) : Prop := ∃ L : List (Lt × Value), L.map (·.1) = l ∧ RowG KL ok w L v
theorem LIn.keep {ok : Nat → Prop} {w w' : World} {l : List Lt} {v : Value} (h : LIn ok w l v) (hf : ∀ b o, ok b → w'.cell? ⟨b, o, none⟩ = w.cell? ⟨b, o, none⟩) : LIn ok w' l v := by
  obtain ⟨L, e, h⟩ := h; exact ⟨L, e, h.keep hf⟩
theorem LIn.wide {ok ok' : Nat → Prop} {w : World} {l : List Lt} {v : Value} (h : LIn ok w l v) (hk : ∀ b, ok b → ok' b) : LIn ok' w l v := by
  obtain ⟨L, e, h⟩ := h; exact ⟨L, e, h.wide hk⟩
theorem LIn.form {ok : Nat → Prop} {w : World} {l : List Lt} {v : Value} (h : LIn ok w l v) : ∃ p c, v = .slice p l.length c := by
  obtain ⟨L, rfl, p, c, e, _⟩ := h
  exact ⟨p, c, by rw [e]; simp⟩
theorem LIn.nil (ok : Nat → Prop) (w : World) : LIn ok w [] (.slice none 0 0) := ⟨[], rfl, RowG.nil _ _⟩
/-- Rules. -/
def KR : Kd (Rl × Value × Value) where
  ty := 27
  cells x := [.string x.1.1.nm, x.2.1, x.2.2]
  inn ok w x := SlIn ok w x.1.1.args x.2.1 ∧ x.1.1.nm.size ≤ maxLen ∧ LIn ok w x.1.2 x.2.2
  len _ := rfl
  keep h hf := ⟨h.1.frame hf, h.2.1, h.2.2.keep hf⟩
  wide h hk := ⟨h.1.weaken hk, h.2.1, h.2.2.wide hk⟩
def RIn (ok : Nat → Prop) (w : World) (l : List Rl) (v : Value) : Prop := ∃ L : List (Rl × Value × Value), L.map (·.1) = l ∧ RowG KR ok w L v
theorem RIn.keep {ok : Nat → Prop} {w w' : World} {l : List Rl} {v : Value} (h : RIn ok w l v) (hf : ∀ b o, ok b → w'.cell? ⟨b, o, none⟩ = w.cell? ⟨b, o, none⟩) : RIn ok w' l v := by
  obtain ⟨L, e, h⟩ := h; exact ⟨L, e, h.keep hf⟩
theorem RIn.wide {ok ok' : Nat → Prop} {w : World} {l : List Rl} {v : Value} (h : RIn ok w l v) (hk : ∀ b, ok b → ok' b) : RIn ok' w l v := by
  obtain ⟨L, e, h⟩ := h; exact ⟨L, e, h.wide hk⟩
theorem RIn.form {ok : Nat → Prop} {w : World} {l : List Rl} {v : Value} (h : RIn ok w l v) : ∃ p c, v = .slice p l.length c := by
  obtain ⟨L, rfl, p, c, e, _⟩ := h
  exact ⟨p, c, by rw [e]; simp⟩
theorem Tryd.infoL : (Tryd.prog.info? 32).map (fun i => (i.zero, i.size, i.bytes)) = some (some (.agg #[.bool false, .string ⟨#[]⟩, .slice none 0 0]), 3, 48) := by kernel_rfl
theorem Tryd.infoR : (Tryd.prog.info? 27).map (fun i => (i.zero, i.size, i.bytes)) = some (some (.agg #[.string ⟨#[]⟩, .slice none 0 0, .slice none 0 0]), 3, 64) := by kernel_rfl
theorem newsK (w : World) (a b c : Value) (t : TypeId) : ∀ j u, [a, b, c][j]? = some u → (w.alloc (.cells #[a, b, c] t)).cell? ((⟨w.heap.size, 0, none⟩ : Addr).add j) = some u := World.news_of_block (heap_alloc_new w _)
theorem one_L (b : Bool) (a : ByteArray) (p : Option Addr) (n c : Nat) : ∀ u ∈ [Value.bool b, .string a, .slice p n c], u.oneCell' = true := by
  intro u hu
  simp at hu
  rcases hu with rfl | rfl | rfl <;> rfl
theorem one_R (a : ByteArray) (p q : Option Addr) (n c m d : Nat) : ∀ u ∈ [Value.string a, .slice p n c, .slice q m d], u.oneCell' = true := by
  intro u hu
  simp at hu
  rcases hu with rfl | rfl | rfl <;> rfl
end ParK
end Go.Proofs.YtfdpelokiljigaaDoor
