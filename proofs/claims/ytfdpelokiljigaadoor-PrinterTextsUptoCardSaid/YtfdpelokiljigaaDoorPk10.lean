/- Texts laid together: ParE; ParF; ParG. Their own heads stand before each. -/
import Derived.Test.YtfdpelokiljigaaDoorPk9
/- The reader's atom and literal. No conditions but a reader in memory. -/
namespace Go.Proofs.YtfdpelokiljigaaDoor
open Go Go.RowKit
namespace ParE
open Kit LexM TermM TermI TermU LexP ParM ParA ParB ParC ParD ParK
theorem hasZ {w1 : World} {g : Nat} {a b : Value} (h : Has w1 g #[a, b]) : w1.cell? ⟨g, 0, none⟩ = some a ∧ w1.cell? ⟨g, 1, none⟩ = some b ∧ g < w1.heap.size := ⟨h.cell 0, h.cell 1, h.lt⟩
set_option maxRecDepth 100000 in
set_option maxHeartbeats 3200000 in
theorem atom_any (r : Nat) (w : World) (ts : List GTok) (h : Rd w r ts) :
    Calls Tryd.prog 64 #[.pointer (some ⟨r, 0, none⟩)] w (TmR r w (atomF ts)) := by
  obtain ⟨W1, hW1⟩ : ∃ W1, W1 = w.alloc (.cells #[.string ⟨#[]⟩, .slice none 0 0] 24) := ⟨_, rfl⟩
  have G1 : Below w.heap.size w W1 := by rw [hW1]; exact below_alloc w _
  have H1 : Hid (Has W1 w.heap.size #[.string ⟨#[]⟩, .slice none 0 0]) := Lib.hid (by rw [hW1]; exact Has.new _ _ _)
  have hr := h.lt
  have hra : r ≠ w.heap.size := by omega
  have R1 := h.below G1
  have C1 := Lib.hid (Ch.of (r := r) G1)
  have HBA := Lib.hid (batom_any W1 r ts R1)
  have HO : Hid (atomF ts = if atomB (hd ts) = true then termF 4 ts else .bad (hd ts).2.2 1) := Lib.hid rfl
  have HFN := Lib.hid (fun w' er => fail_no w' r er)
  have HFY := Lib.hid (fun w' (k : Below W1.heap.size W1 w') => fail_yes w' r 1 ts (R1.below k))
  have HT := Lib.hid (fun w' (k : Below W1.heap.size W1 w') => tm_top r w' ts (R1.below k))
  generalize atomF ts = O at *
  generalize termF 4 ts = O4 at *
  generalize hd ts = t at *
  unfold TmR at HT ⊢
  clear h R1 G1
  cases hb : atomB t with
  | false =>
    rw [hb] at HBA HO
    have HO2 : Hid (O = .bad t.2.2 1) := Lib.hid (by rw [HO.out]; rfl)
    clear hb HO HT
    go_enter Tryd.func64, Tryd.ntmps64
    go_upto_region 1 with fail
    rw [← hW1]
    clear hW1
    go_wp2_with fail
    refine HBA.out.mono ?_
    rintro e w2 ⟨rfl, k⟩
    have HF2 := Lib.hid (HFY.out w2 k)
    have C2 := Lib.hid (C1.out.below k)
    clear k HFY HBA
    go_wp2_with fail
    refine HF2.out.mono ?_
    rintro e w3 ⟨rfl, k⟩
    have C3 := Lib.hid (C2.out.below k)
    clear k HF2
    go_wp2_with fail
    exact ⟨rfl, Or.inr ⟨_, _, HO2.out, rfl, C3.out⟩⟩
  | true =>
    rw [hb] at HBA HO
    have HO2 : Hid (O = O4) := Lib.hid (by rw [HO.out]; rfl)
    clear hb HO HFY
    go_enter Tryd.func64, Tryd.ntmps64
    go_upto_region 1 with fail
    rw [← hW1]
    clear hW1
    go_wp2_with fail
    refine HBA.out.mono ?_
    rintro e w2 ⟨rfl, k⟩
    have HT2 := Lib.hid (HT.out w2 k)
    have C2 := Lib.hid (C1.out.below k)
    have H2 := Lib.hid (H1.out.step0 k)
    clear k HT HBA
    go_wp2_with fail
    refine (HFN.out _ _).mono ?_
    rintro e w3 ⟨rfl, rfl⟩
    go_wp2_with fail
    refine HT2.out.mono ?_
    rintro e w4 (⟨t', ts4, p, c, hO, rfl, hs, hn, hR, hC⟩ | ⟨a, er, hO, rfl, hC⟩)
    case inr =>
      have HO3 : Hid (O = .bad a er) := Lib.hid (HO2.out.trans hO)
      have C4 := Lib.hid (C2.out.trans hC)
      clear hO hC HT2
      go_wp2_with fail
      exact ⟨rfl, Or.inr ⟨a, er, HO3.out, rfl, C4.out⟩⟩
    case inl =>
      have HO3 : Hid (O = .good t' ts4) := Lib.hid (HO2.out.trans hO)
      have C4 := Lib.hid (C2.out.trans hC)
      obtain ⟨x1, x2, x3, x4, x5⟩ := (hC.has H2.out (Ne.symm hra)).two
      have hz2 : w.heap.size < w2.heap.size := H2.out.lt
      have S4 := Lib.hid (hs.weaken (ok' := fun b => w.heap.size < b ∧ b < w4.heap.size) (fun b hb => ⟨by have := hb.1; omega, hb.2⟩))
      have N4 := Lib.hid hn
      have R4 := Lib.hid hR
      clear hO hC HT2 hs hn hR H2 H1
      go_wp2_with fail
      refine bodyPost_ret (v := .agg #[.string t'.nm, .slice p t'.args.length c]) (by simp [results, Tryd.results64, go_sem, x1, x2]) rfl (Or.inl ⟨t', ts4, p, c, HO3.out, rfl, ?_, N4.out, ?_, ?_⟩)
      · refine (S4.out.frame (fun b o hk => ?_)).weaken (fun b hb => ⟨by have := hb.1; omega, by rw [set_size, set_size]; exact hb.2⟩)
        have := hk.1
        exact (cell_set (by show b ≠ w.heap.size; omega) _).trans (cell_set (by show b ≠ w.heap.size; omega) _)
      · exact (R4.out.far (by exact hr) _).far (by exact hr) _
      · exact (C4.out.put (Or.inr (by exact Nat.le_refl _)) _).put (Or.inr (by exact Nat.le_refl _)) _
/-- What a method that reads a literal leaves. -/
def LtR (r : Nat) (w : World) (o : Out Lt) (e : Ending) (w' : World) : Prop :=
  (∃ x ts p c, o = .good x ts ∧ e = .returned (.agg #[.bool x.1, .string x.2.nm, .slice p x.2.args.length c]) ∧ SlIn (fun b => w.heap.size ≤ b ∧ b < w'.heap.size) w' x.2.args (.slice p x.2.args.length c) ∧ x.2.nm.size ≤ maxLen ∧ Rd w' r ts ∧ Ch r w w') ∨
  (∃ a er, o = .bad a er ∧ e = .panicked (PE a er) ∧ Ch r w w')
theorem then_good {α β : Type} {o : Out α} {x : α} {r : List GTok} {f : α → List GTok → Out β} (h : o = .good x r) : o.then f = f x r := by rw [h]; rfl
theorem then_bad {α β : Type} {o : Out α} {a er : Int} {f : α → List GTok → Out β} (h : o = .bad a er) : o.then f = .bad a er := by rw [h]; rfl
set_option maxRecDepth 100000 in
set_option maxHeartbeats 3200000 in
theorem lit_any (r : Nat) (w : World) (ts : List GTok) (h : Rd w r ts) :
    Calls Tryd.prog 87 #[.pointer (some ⟨r, 0, none⟩)] w (LtR r w (litF ts)) := by
  obtain ⟨W1, hW1⟩ : ∃ W1, W1 = w.alloc (.cells #[.bool false, .string ⟨#[]⟩, .slice none 0 0] 32) := ⟨_, rfl⟩
  have G1 : Below w.heap.size w W1 := by rw [hW1]; exact below_alloc w _
  have H1 : Hid (Has W1 w.heap.size #[.bool false, .string ⟨#[]⟩, .slice none 0 0]) := Lib.hid (by rw [hW1]; exact Has.new _ _ _)
  have hr := h.lt
  have hra : r ≠ w.heap.size := by omega
  have R1 := h.below G1
  have C1 := Lib.hid (Ch.of (r := r) G1)
  have HO : Hid (litF ts = if isB (hd ts) sNot = true then (atomF ts.tail).then fun t r => .good (true, t) r else (atomF ts).then fun t r => .good (false, t) r) := Lib.hid rfl
  generalize litF ts = O at *
  have HAT := Lib.hid (fun w' tk (k : Rd w' r tk) => atom_any r w' tk k)
  unfold TmR at HAT
  unfold LtR
  have HACC : Hid (∃ (b : Bool) (tk : List GTok), O = (atomF tk).then (fun t r => .good (b, t) r) ∧ Calls Tryd.prog 65 #[.pointer (some ⟨r, 0, none⟩), .string ⟨#[110, 111, 116]⟩] W1 (fun e w' => e = .returned (.bool b) ∧ Rd w' r tk ∧ Ch r W1 w')) := Lib.hid (by
    cases hb : isB (hd ts) sNot with
    | true => exact ⟨true, ts.tail, by rw [HO.out, hb]; rfl, acc_yes W1 r ts sNot R1 lit_ne.2.2.2.2.2.2 hb⟩
    | false => exact ⟨false, ts, by rw [HO.out, hb]; rfl, (acc_no W1 r ts sNot R1 hb).mono fun _ _ ⟨a, b⟩ => ⟨a, R1.below b, Ch.of b⟩⟩)
  obtain ⟨b, tk, hOt, hacc⟩ := HACC.out
  have HA := Lib.hid hacc
  have HO2 := Lib.hid hOt
  clear h R1 G1 HO HACC hacc hOt
  go_enter Tryd.func87, Tryd.ntmps87
  go_upto_region 1 with fail
  rw [← hW1]
  clear hW1
  go_wp2_with fail
  refine HA.out.mono ?_
  rintro e w2 ⟨rfl, k1, k2⟩
  have HT2 := Lib.hid (HAT.out w2 tk k1)
  have C2 := Lib.hid (C1.out.trans k2)
  have H2 := Lib.hid (k2.has H1.out (Ne.symm hra))
  clear k1 k2 HA HAT
  go_wp2_with fail
  refine HT2.out.mono ?_
  rintro e w4 (⟨t', ts4, p, c, hO, rfl, hs, hn, hR, hC⟩ | ⟨a, er, hO, rfl, hC⟩)
  case inr =>
    have HO3 : Hid (O = .bad a er) := Lib.hid (HO2.out.trans (then_bad hO))
    have C4 := Lib.hid (C2.out.trans hC)
    clear hO hC HT2
    go_wp2_with fail
    exact ⟨rfl, Or.inr ⟨a, er, HO3.out, rfl, C4.out⟩⟩
  case inl =>
    have HO3 : Hid (O = .good (b, t') ts4) := Lib.hid (HO2.out.trans (then_good hO))
    have C4 := Lib.hid (C2.out.trans hC)
    have H4 := hC.has H2.out (Ne.symm hra)
    have x0 := H4.cell 0
    have x1 := H4.cell 1
    have x2 := H4.cell 2
    have f0 := H4.free 0
    have f1 := H4.free 1
    have f2 := H4.free 2
    have x5 := H4.lt
    simp only [List.getElem?_toArray, List.getElem?_cons_zero, List.getElem?_cons_succ] at x0 x1 x2
    have hz2 : w.heap.size < w2.heap.size := H2.out.lt
    have S4 := Lib.hid (hs.weaken (ok' := fun b => w.heap.size < b ∧ b < w4.heap.size) (fun b hb => ⟨by have := hb.1; omega, hb.2⟩))
    have N4 := Lib.hid hn
    have R4 := Lib.hid hR
    clear hO hC HT2 hs hn hR H2 H1 H4
    go_wp2_with fail
    refine bodyPost_ret (v := .agg #[.bool b, .string t'.nm, .slice p t'.args.length c]) (by simp [results, Tryd.results87, go_sem, x0, x1, x2]) rfl (Or.inl ⟨(b, t'), ts4, p, c, HO3.out, rfl, ?_, N4.out, ?_, ?_⟩)
    · refine (S4.out.frame (fun b o hk => ?_)).weaken (fun b hb => ⟨by have := hb.1; omega, by rw [set_size, set_size, set_size]; exact hb.2⟩)
      have := hk.1
      exact (cell_set (by show b ≠ w.heap.size; omega) _).trans ((cell_set (by show b ≠ w.heap.size; omega) _).trans (cell_set (by show b ≠ w.heap.size; omega) _))
    · exact ((R4.out.far (by exact hr) _).far (by exact hr) _).far (by exact hr) _
    · exact ((C4.out.put (Or.inr (by exact Nat.le_refl _)) _).put (Or.inr (by exact Nat.le_refl _)) _).put (Or.inr (by exact Nat.le_refl _)) _
end ParE
end Go.Proofs.YtfdpelokiljigaaDoor
/- The reader's body. No conditions but a reader in memory. -/
namespace Go.Proofs.YtfdpelokiljigaaDoor
open Go Go.RowKit
namespace ParF
open Kit LexM TermM TermI TermU LexP ParM ParA ParB ParC ParD ParK ParE
/-- What the method that reads a body leaves. -/
def BdR (r : Nat) (w : World) (o : Out (List Lt)) (e : Ending) (w' : World) : Prop :=
  (∃ l ts p c, o = .good l ts ∧ e = .returned (.slice p l.length c) ∧ LIn (fun b => w.heap.size ≤ b ∧ b < w'.heap.size) w' l (.slice p l.length c) ∧ Rd w' r ts ∧ Ch r w w') ∨
  (∃ a er, o = .bad a er ∧ e = .panicked (PE a er) ∧ Ch r w w')
theorem litF_bad {ts : List GTok} (h : (atomB (hd ts) || isB (hd ts) sNot) = false) : litF ts = .bad (hd ts).2.2 1 := by
  rw [Bool.or_eq_false_iff] at h
  unfold litF atomF
  rw [h.1, h.2]
  rfl
set_option maxRecDepth 100000 in
set_option maxHeartbeats 6400000 in
theorem body_any (r : Nat) (w : World) (ts : List GTok) (h : Rd w r ts) :
    Calls Tryd.prog 66 #[.pointer (some ⟨r, 0, none⟩)] w (BdR r w (bodyF ts)) := by
  obtain ⟨i0, hi, hz0, hz1, hz2⟩ := info_parts Tryd.infoL
  have hr := h.lt
  have HI0 := Lib.hid (lit_any r w ts h)
  have HI := Lib.hid (fun w' tk (k : Rd w' r tk) => lit_any r w' tk k)
  have HO : Hid (bodyF ts = (litF ts).then fun x r => litsF 8 [x] r) := Lib.hid rfl
  generalize bodyF ts = O at *
  unfold LtR at HI0 HI
  unfold BdR
  clear h
  go_enter Tryd.func66, Tryd.ntmps66
  go_wp2_with fail
  refine HI0.out.mono ?_
  rintro e w2 (⟨x, ts2, p, c, hO, rfl, hs, hn, hR, hC⟩ | ⟨a, er, hO, rfl, hC⟩)
  case inr =>
    have HO2 : Hid (O = .bad a er) := Lib.hid (HO.out.trans (then_bad hO))
    have C2 := Lib.hid hC
    clear hO hC HI0
    go_wp2_with fail
    exact ⟨rfl, Or.inr ⟨a, er, HO2.out, rfl, C2.out⟩⟩
  case inl =>
    have HO2 : Hid (O = litsF 8 [x] ts2) := Lib.hid (HO.out.trans (then_good hO))
    have hsz := hC.size
    have O2 : Hid (OwnG KL w.heap.size (w2.alloc (.cells #[.bool x.1, .string x.2.nm, .slice p x.2.args.length c] 32)) [(x, .slice p x.2.args.length c)] (.slice (some ⟨w2.heap.size, 0, none⟩) 1 1)) := Lib.hid (OwnG.one (K := KL) (x := (x, .slice p x.2.args.length c)) ⟨hs, hn⟩ hsz)
    have R2 := Lib.hid (hR.alloc (.cells #[.bool x.1, .string x.2.nm, .slice p x.2.args.length c] 32))
    have C2 := Lib.hid (hC.alloc (.cells #[.bool x.1, .string x.2.nm, .slice p x.2.args.length c] 32))
    clear hO hC HI0 hs hn hR HO hsz
    go_wp2_with fail
    go_loopw [3] (fun v wx => ∃ (M : List (Lt × Value)) (n : Nat) (tk : List GTok), M.length + n = 8 ∧ Hid (O = litsF (n + 1) (M.map (·.1)) tk) ∧ Hid (OwnG KL w.heap.size wx M v) ∧ Hid (Rd wx r tk) ∧ Hid (Ch r w wx)) (fun v _ => 9 - lenOf v)
    case atStart => exact ⟨[(x, .slice p x.2.args.length c)], 7, ts2, rfl, HO2, O2, R2, C2⟩
    case round =>
      clear O2 R2 C2 HO2
      obtain ⟨M, n, tk, hMn, HO, OW, RD, CC⟩ := hrel
      obtain ⟨va, vc, hv⟩ := OW.out.form
      subst hv
      have HML : Hid ((M.map (·.1)).length = M.length) := Lib.hid (by simp)
      cases hc : isB (hd tk) sAnd with
      | false =>
        have HN := Lib.hid (acc_no wr r tk sAnd RD.out hc)
        have HO3 : Hid (O = .good (M.map (·.1)) tk) := Lib.hid (by rw [HO.out]; simp only [litsF, hc]; rfl)
        clear hc HO
        go_wp2_with fail
        refine HN.out.mono ?_
        rintro e w3 ⟨rfl, k⟩
        have RD3 := Lib.hid (RD.out.below k)
        have S3 : Hid (RowG KL (fun b => w.heap.size ≤ b ∧ b < w3.heap.size) w3 M (.slice va M.length vc)) := Lib.hid (OW.out.ch (Ch.of (r := r) k) hr).row
        have C4 := Lib.hid (CC.out.below k)
        clear k HN
        go_wp2_with fail
        go_ret
        exact Or.inl ⟨_, _, va, vc, HO3.out, ret_sl HML.out.symm, ⟨M, rfl, by rw [HML.out]; exact S3.out⟩, RD3.out, C4.out⟩
      | true =>
        have HN := Lib.hid (acc_yes wr r tk sAnd RD.out lit_ne.2.2.2.2.2.1 hc)
        have HO2 : Hid (O = if (decide (M.length = 8) && (atomB (hd tk.tail) || isB (hd tk.tail) sNot)) = true then .bad (hd tk.tail).2.2 2 else (litF tk.tail).then fun x r => litsF n ((M.map (·.1)) ++ [x]) r) := Lib.hid (by rw [HO.out]; simp only [litsF, hc, List.length_map]; rfl)
        clear hc HO
        generalize tk.tail = tk2 at *
        go_wp2_with fail
        refine HN.out.mono ?_
        rintro e w3 ⟨rfl, k1, k2⟩
        have RD3 := Lib.hid k1
        have OW3 := Lib.hid (OW.out.ch k2 hr)
        have C4 := Lib.hid (CC.out.trans k2)
        clear k1 k2 HN RD OW CC
        have HFN := Lib.hid (fun w' => fail_no w' r 2)
        by_cases h4 : M.length = 8
        · have hn0 : n = 0 := by omega
          subst hn0
          have d4 : ((M.length : Int) == 8) = true := by simp; omega
          have HBT := Lib.hid (blit_any w3 r tk2 RD3.out)
          cases hbg : (atomB (hd tk2) || isB (hd tk2) sNot) with
          | true =>
            have HO3 : Hid (O = .bad (hd tk2).2.2 2) := Lib.hid (by rw [HO2.out, hbg, decide_eq_true h4]; rfl)
            rw [hbg] at HBT
            have HFY := Lib.hid (fun w' (k : Below w3.heap.size w3 w') => fail_yes w' r 2 tk2 (RD3.out.below k))
            clear hbg HO2
            go_wp2_with fail
            refine HBT.out.mono ?_
            rintro e w4 ⟨rfl, k⟩
            have HF2 := Lib.hid (HFY.out w4 k)
            have C5 := Lib.hid (C4.out.below k)
            clear k
            go_wp2_with fail
            refine HF2.out.mono ?_
            rintro e w5 ⟨rfl, k⟩
            have C6 := Lib.hid (C5.out.below k)
            clear k
            go_wp2_with fail
            exact ⟨rfl, Or.inr ⟨_, _, HO3.out, rfl, C6.out⟩⟩
          | false =>
            have hba := litF_bad hbg
            have HO3 : Hid (O = .bad (hd tk2).2.2 1) := Lib.hid (by rw [HO2.out, hbg, hba]; simp [Out.then])
            have HBA := Lib.hid hba
            rw [hbg] at HBT
            have HI2 := Lib.hid (fun w' (k : Below w3.heap.size w3 w') => HI.out w' tk2 (RD3.out.below k))
            clear hbg HO2 hba HI
            go_wp2_with fail
            refine HBT.out.mono ?_
            rintro e w4 ⟨rfl, k⟩
            have HI3 := Lib.hid (HI2.out w4 k)
            have C5 := Lib.hid (C4.out.below k)
            clear k HI2
            go_wp2_with fail
            refine (HFN.out _).mono ?_
            rintro e w5 ⟨rfl, rfl⟩
            go_wp2_with fail
            refine HI3.out.mono ?_
            rintro e w6 (⟨x', ts', p', c', hO', rfl, hs', hn', hR', hC'⟩ | ⟨a', er', hO', rfl, hC'⟩)
            · rw [HBA.out] at hO'
              cases hO'
            · have C6 := Lib.hid (C5.out.trans hC')
              rw [HBA.out] at hO'
              injection hO' with e1 e2
              subst e1 e2
              clear hC' HI3
              go_wp2_with fail
              exact ⟨rfl, Or.inr ⟨_, _, HO3.out, rfl, C6.out⟩⟩
        · have d4 : ((M.length : Int) == 8) = false := by simp; omega
          have HO3 : Hid (O = (litF tk2).then fun x r => litsF n ((M.map (·.1)) ++ [x]) r) := Lib.hid (by rw [HO2.out, decide_eq_false h4]; rfl)
          have HI2 := Lib.hid (HI.out w3 tk2 RD3.out)
          have hv := Lib.hid OW3.out.1.lt
          have hb3 := C4.out.size
          clear HO2 HI
          obtain ⟨n', hn'⟩ : ∃ n', n = n' + 1 := ⟨n - 1, by omega⟩
          subst hn'
          go_wp2_with fail
          refine (HFN.out _).mono ?_
          rintro e w5 ⟨rfl, rfl⟩
          go_wp2_with fail
          refine HI2.out.mono ?_
          rintro e w6 (⟨x', ts', p', c', hO', rfl, hs', hn', hR', hC'⟩ | ⟨a', er', hO', rfl, hC'⟩)
          case inr =>
            have C6 := Lib.hid (C4.out.trans hC')
            have HO4 : Hid (O = .bad a' er') := Lib.hid (HO3.out.trans (then_bad hO'))
            clear hC' HI2 hO'
            go_wp2_with fail
            exact ⟨rfl, Or.inr ⟨_, _, HO4.out, rfl, C6.out⟩⟩
          case inl =>
            have C6 := Lib.hid (C4.out.trans hC')
            have O6 := Lib.hid (OW3.out.ch hC' hr)
            have R6 := Lib.hid hR'
            have S6 : Hid (KL.inn (fun b => w3.heap.size ≤ b ∧ b < w6.heap.size) w6 (x', .slice p' x'.2.args.length c')) := Lib.hid ⟨hs', hn'⟩
            have HO4 : Hid (O = litsF (n' + 1) (List.map (fun x : Lt × Value => x.1) (M ++ [(x', Value.slice p' x'.2.args.length c')])) ts') := Lib.hid (by rw [HO3.out, then_good hO', List.map_append]; rfl)
            have A1 : M.length + 1 ≤ maxLen := by unfold maxLen; omega
            have A2 : (M.length + 1) * 48 ≤ 140737488355328 := by omega
            have hs6 := hC'.size
            have A4 : w.heap.size ≤ (w6.alloc (.cells #[.bool x'.1, .string x'.2.nm, .slice p' x'.2.args.length c'] 32)).heap.size := by rw [World.size_alloc]; omega
            clear hC' HI2 hO' hR' hs' hn'
            go_wp2_with (at_builtin; refine wpList_append_lies _ rfl _ _ 25 rfl w.heap.size 32 i0 (.agg #[.bool false, .string ⟨#[]⟩, .slice none 0 0]) 3 48 Tryd.underlying25 hi hz0 hz1 hz2 rfl (by decide) (.slice va M.length vc) M.length (KL.flat M) rfl (O6.out.1.alloc _) ⟨w6.heap.size, 0, none⟩ 1 1 [.bool x'.1, .string x'.2.nm, .slice p' x'.2.args.length c'] rfl rfl (newsK _ _ _ _ _) (one_L _ _ _ _ _) (by decide) A1 A2 A4 (w6.heap.size + 1) (by simp) ?_; intro g5 cap5 w7 hown hgrow hat hlt5)
            have O7 := Lib.hid (O6.out.add S6.out hb3 (fun k hk => (hv.out k hk).2) hown hgrow hat)
            have C7 := Lib.hid ((C6.out.alloc _).grown hgrow (fun k hk => (hv.out k hk).1))
            have R7 : Hid (Rd w7 r ts') := Lib.hid ((R6.out.alloc _).grown hgrow (fun k hk => by have := (hv.out k hk).1; omega))
            clear hown hgrow hat
            go_wp2_with fail
            go_roundw
            case rel => exact ⟨M ++ [(x', .slice p' x'.2.args.length c')], n', ts', by simp; omega, HO4, O7, R7, C7⟩
            case measure => simp [lenOf]; omega
end ParF
end Go.Proofs.YtfdpelokiljigaaDoor
/- The reader's rule. No conditions but a reader in memory. -/
namespace Go.Proofs.YtfdpelokiljigaaDoor
open Go Go.RowKit
namespace ParG
open Kit LexM TermM TermI TermU LexP ParM ParA ParB ParC ParD ParK ParE ParF
/-- What the method that reads a rule leaves. -/
def RlR (r : Nat) (w : World) (o : Out Rl) (e : Ending) (w' : World) : Prop :=
  (∃ x ts p c q d, o = .good x ts ∧ e = .returned (.agg #[.string x.1.nm, .slice p x.1.args.length c, .slice q x.2.length d]) ∧ KR.inn (fun b => w.heap.size ≤ b ∧ b < w'.heap.size) w' (x, .slice p x.1.args.length c, .slice q x.2.length d) ∧ Rd w' r ts ∧ Ch r w w') ∨
  (∃ a er, o = .bad a er ∧ e = .panicked (PE a er) ∧ Ch r w w')
theorem has3 {w : World} {g : Nat} {a b c : Value} (h : Has w g #[a, b, c]) : w.cell? ⟨g, 0, none⟩ = some a ∧ w.cell? ⟨g, 1, none⟩ = some b ∧ w.cell? ⟨g, 2, none⟩ = some c ∧ w.frozen? ⟨g, 0, none⟩ = false ∧ w.frozen? ⟨g, 1, none⟩ = false ∧ w.frozen? ⟨g, 2, none⟩ = false ∧ g < w.heap.size :=
  ⟨h.cell 0, h.cell 1, h.cell 2, h.free 0, h.free 1, h.free 2, h.lt⟩
set_option maxRecDepth 100000 in
set_option maxHeartbeats 6400000 in
theorem rule_any (r : Nat) (w : World) (ts : List GTok) (h : Rd w r ts) :
    Calls Tryd.prog 43 #[.pointer (some ⟨r, 0, none⟩)] w (RlR r w (ruleF ts)) := by
  obtain ⟨W1, hW1⟩ : ∃ W1, W1 = w.alloc (.cells #[.string ⟨#[]⟩, .slice none 0 0, .slice none 0 0] 27) := ⟨_, rfl⟩
  have G1 : Below w.heap.size w W1 := by rw [hW1]; exact below_alloc w _
  have H1 : Hid (Has W1 w.heap.size #[.string ⟨#[]⟩, .slice none 0 0, .slice none 0 0]) := Lib.hid (by rw [hW1]; exact Has.new _ _ _)
  have hr := h.lt
  have hra : r ≠ w.heap.size := by omega
  have R1 := h.below G1
  have C1 := Lib.hid (Ch.of (r := r) G1)
  have HA := Lib.hid (atom_any r W1 ts R1)
  have HB := Lib.hid (fun w' tk (k : Rd w' r tk) => body_any r w' tk k)
  have HO : Hid (ruleF ts = (atomF ts).then fun h r => if isB (hd r) sIf = true then (bodyF r.tail).then fun b r2 => (expF sDot r2).then fun _ r3 => .good (h, b) r3 else (expF sDot r).then fun _ r3 => .good (h, []) r3) := Lib.hid rfl
  have EY := Lib.hid (fun w' tk (k : Rd w' r tk) (hb : isB (hd tk) sDot = true) => exp_yes w' r tk sDot k lit_ne.2.2.2.1 hb)
  have EN := Lib.hid (fun w' tk (k : Rd w' r tk) (hb : isB (hd tk) sDot = false) => exp_no w' r tk sDot k hb)
  generalize ruleF ts = O at *
  unfold TmR at HA
  unfold BdR at HB
  unfold RlR KR
  dsimp only
  clear h R1 G1
  go_enter Tryd.func43, Tryd.ntmps43
  go_upto_region 1 with fail
  rw [← hW1]
  clear hW1
  go_wp2_with fail
  refine HA.out.mono ?_
  rintro e w2 (⟨t, ts2, p, c, hO, rfl, hs, hn, hR, hC⟩ | ⟨a, er, hO, rfl, hC⟩)
  case inr =>
    have HO2 : Hid (O = .bad a er) := Lib.hid (HO.out.trans (then_bad hO))
    have C2 := Lib.hid (C1.out.trans hC)
    clear hO hC HA
    go_wp2_with fail
    exact ⟨rfl, Or.inr ⟨a, er, HO2.out, rfl, C2.out⟩⟩
  case inl =>
    have HO2 : Hid (O = if isB (hd ts2) sIf = true then (bodyF ts2.tail).then fun b r2 => (expF sDot r2).then fun _ r3 => .good (t, b) r3 else (expF sDot ts2).then fun _ r3 => .good (t, []) r3) := Lib.hid (HO.out.trans (then_good hO))
    have hz1 := H1.out.lt
    have H2 := Lib.hid ((hC.has H1.out (Ne.symm hra)).alloc (.cells #[.string t.nm, .slice p t.args.length c, .slice none 0 0] 27))
    have T2 : Hid (Has (w2.alloc (.cells #[.string t.nm, .slice p t.args.length c, .slice none 0 0] 27)) w2.heap.size #[.string t.nm, .slice p t.args.length c, .slice none 0 0]) := Lib.hid (Has.new _ _ _)
    have hz2 : w.heap.size < w2.heap.size := Nat.lt_of_lt_of_le hz1 hC.size
    have C2 := Lib.hid ((C1.out.trans hC).alloc (.cells #[.string t.nm, .slice p t.args.length c, .slice none 0 0] 27))
    have R2 := Lib.hid (hR.alloc (.cells #[.string t.nm, .slice p t.args.length c, .slice none 0 0] 27))
    have S2 : Hid (SlIn (fun b => w.heap.size < b ∧ b < w2.heap.size) (w2.alloc (.cells #[.string t.nm, .slice p t.args.length c, .slice none 0 0] 27)) t.args (.slice p t.args.length c)) := Lib.hid ((hs.frame (fun b o hk => (below_alloc w2 _).cell (p := ⟨b, o, none⟩) hk.2)).weaken (fun b hb => ⟨by have := hb.1; omega, hb.2⟩))
    have N2 := Lib.hid hn
    obtain ⟨WX, hWX⟩ : ∃ WX, WX = w2.alloc (.cells #[.string t.nm, .slice p t.args.length c, .slice none 0 0] 27) := ⟨_, rfl⟩
    have hzx : WX.heap.size = w2.heap.size + 1 := by rw [hWX]; simp
    rw [← hWX] at H2 T2 C2 R2 S2
    have HZX := Lib.hid hzx
    clear hO hC HA hs hn hR HO H1 C1 hzx
    cases hb : isB (hd ts2) sIf with
    | false =>
      have HN := Lib.hid (acc_no WX r ts2 sIf R2.out hb)
      have HO3 : Hid (O = (expF sDot ts2).then fun _ r3 => .good (t, []) r3) := Lib.hid (by rw [HO2.out, hb]; rfl)
      clear hb HO2 HB
      go_upto_region 2 with fail
      rw [← hWX]
      clear hWX
      go_wp2_with fail
      refine HN.out.mono ?_
      rintro e w3 ⟨rfl, k⟩
      have H3 := Lib.hid (H2.out.step0 k)
      have T3 := Lib.hid (T2.out.step0 k)
      have R3 := Lib.hid (R2.out.below k)
      have C3 := Lib.hid (C2.out.below k)
      have hzk := k.size
      have S3 := Lib.hid (S2.out.frame (fun b o hk => k.cell (p := ⟨b, o, none⟩) (by show b < WX.heap.size; have := HZX.out; have := hk.2; omega)))
      clear k HN H2 T2 R2 C2 S2
      cases hd2 : isB (hd ts2) sDot with
      | false =>
        have HE := Lib.hid (EN.out w3 ts2 R3.out hd2)
        have HO4 : Hid (O = .bad (hd ts2).2.2 1) := Lib.hid (by rw [HO3.out]; unfold expF; rw [hd2]; rfl)
        clear hd2 HO3 EY EN
        go_wp2_with fail
        refine HE.out.mono ?_
        rintro e w4 ⟨rfl, k⟩
        have C5 := Lib.hid (C3.out.trans k)
        clear k
        go_wp2_with fail
        exact ⟨rfl, Or.inr ⟨_, _, HO4.out, rfl, C5.out⟩⟩
      | true =>
        have HE := Lib.hid (EY.out w3 ts2 R3.out hd2)
        have HO4 : Hid (O = .good (t, []) ts2.tail) := Lib.hid (by rw [HO3.out]; unfold expF; rw [hd2]; rfl)
        clear hd2 HO3 EY EN
        go_wp2_with fail
        refine HE.out.mono ?_
        rintro e w4 ⟨rfl, k1, k2⟩
        have R4 := Lib.hid k1
        have C4 := Lib.hid (C3.out.trans k2)
        have hz4 := k2.size
        obtain ⟨x0, x1, x2, f0, f1, f2, x5⟩ := has3 (k2.has H3.out (Ne.symm hra))
        obtain ⟨y0, y1, y2, g0, g1, g2, y5⟩ := has3 (k2.has T3.out (by omega))
        have S4 := Lib.hid ((S3.out.frame (fun b o hk => k2.cell (by have := HZX.out; have := hk.2; omega) (by have := hk.1; omega))))
        have Z4 := Lib.hid hz4
        have ZK := Lib.hid hzk
        clear k1 k2 HE H3 T3 R3 S3 C3 hz4 hzk
        go_wp2_with fail
        refine bodyPost_ret (v := .agg #[.string t.nm, .slice p t.args.length c, .slice none 0 0]) (by simp [results, Tryd.results43, go_sem, x0, x1, x2]) rfl (Or.inl ⟨(t, []), _, p, c, none, 0, HO4.out, rfl, ⟨?_, N2.out, LIn.nil _ _⟩, ?_, ?_⟩)
        · refine (S4.out.frame (fun b o hk => ?_)).weaken (fun b hb => ⟨by have := hb.1; omega, by rw [set_size, set_size, set_size]; have := hb.2; have := HZX.out; have := Z4.out; have := ZK.out; omega⟩)
          have := hk.1
          exact (cell_set (by show b ≠ w.heap.size; omega) _).trans ((cell_set (by show b ≠ w.heap.size; omega) _).trans (cell_set (by show b ≠ w.heap.size; omega) _))
        · exact ((R4.out.far (by exact hr) _).far (by exact hr) _).far (by exact hr) _
        · exact ((C4.out.put (Or.inr (by exact Nat.le_refl _)) _).put (Or.inr (by exact Nat.le_refl _)) _).put (Or.inr (by exact Nat.le_refl _)) _
    | true =>
      have HN := Lib.hid (acc_yes WX r ts2 sIf R2.out lit_ne.2.2.2.2.1 hb)
      have HO3 : Hid (O = (bodyF ts2.tail).then fun b r2 => (expF sDot r2).then fun _ r3 => .good (t, b) r3) := Lib.hid (by rw [HO2.out, hb]; rfl)
      clear hb HO2
      generalize ts2.tail = tk at *
      go_upto_region 2 with fail
      rw [← hWX]
      clear hWX
      go_wp2_with fail
      refine HN.out.mono ?_
      rintro e w3 ⟨rfl, k1, k2⟩
      have HB2 := Lib.hid (HB.out w3 tk k1)
      have H3 := Lib.hid (k2.has H2.out (Ne.symm hra))
      have T3 := Lib.hid (k2.has T2.out (by omega))
      have C3 := Lib.hid (C2.out.trans k2)
      have hz3 := k2.size
      have hz3' := Lib.hid hz3
      have S3 := Lib.hid (S2.out.frame (fun b o hk => k2.cell (by have := HZX.out; have := hk.2; omega) (by have := hk.1; omega)))
      clear k1 k2 HN HB H2 T2 R2 C2 S2
      go_wp2_with fail
      refine HB2.out.mono ?_
      rintro e w4 (⟨l, ts4, q, d, hO, rfl, hs, hR, hC⟩ | ⟨a, er, hO, rfl, hC⟩)
      case inr =>
        have HO4 : Hid (O = .bad a er) := Lib.hid (HO3.out.trans (then_bad hO))
        have C4 := Lib.hid (C3.out.trans hC)
        clear hO hC HB2
        go_wp2_with fail
        exact ⟨rfl, Or.inr ⟨a, er, HO4.out, rfl, C4.out⟩⟩
      case inl =>
        have HO4 : Hid (O = (expF sDot ts4).then fun _ r3 => .good (t, l) r3) := Lib.hid (HO3.out.trans (then_good hO))
        have C4 := Lib.hid (C3.out.trans hC)
        have H4 := Lib.hid (hC.has H3.out (Ne.symm hra))
        have T4 := Lib.hid (hC.has T3.out (by omega))
        have R4 := Lib.hid hR
        have hz4 := hC.size
        have S4 := Lib.hid (S3.out.frame (fun b o hk => hC.cell (by have := HZX.out; have := hk.2; omega) (by have := hk.1; omega)))
        have L4 := Lib.hid (hs.wide (ok' := fun b => w2.heap.size < b ∧ b < w4.heap.size) (fun b hb => ⟨by have := hb.1; have := HZX.out; omega, hb.2⟩))
        obtain ⟨y0, y1, y2, g0, g1, g2, y5⟩ := has3 T4.out
        obtain ⟨x0, x1, x2, f0, f1, f2, x5⟩ := has3 H4.out
        have hz2' : w.heap.size ≠ w2.heap.size := by omega
        have hz2'' : w2.heap.size ≠ w.heap.size := by omega
        clear hO hC HB2 hs hR H3 T3 S3 C3 HO3
        -- the world behind the store
        have RQ := Lib.hid (R4.out.far (p := ⟨w2.heap.size, 2, none⟩) (by show r < w2.heap.size; omega) (.slice q l.length d))
        have CQ := Lib.hid (C4.out.put (p := ⟨w2.heap.size, 2, none⟩) (Or.inr (by show w.heap.size ≤ w2.heap.size; omega)) (.slice q l.length d))
        have HQ := Lib.hid (H4.out.far (p := ⟨w2.heap.size, 2, none⟩) (by show w.heap.size ≠ w2.heap.size; omega) (.slice q l.length d))
        have TQ := Lib.hid (T4.out.set 2 (.slice q l.length d))
        have SQ := Lib.hid (S4.out.frame (w' := w4.setCell ⟨w2.heap.size, 2, none⟩ (.slice q l.length d)) (fun b o hk => cell_set (by show b ≠ w2.heap.size; have := hk.2; omega) _))
        have LQ := Lib.hid (L4.out.keep (w' := w4.setCell ⟨w2.heap.size, 2, none⟩ (.slice q l.length d)) (fun b o hk => cell_set (by show b ≠ w2.heap.size; have := hk.1; omega) _))
        have ZQ : Hid ((w4.setCell ⟨w2.heap.size, 2, none⟩ (.slice q l.length d)).heap.size = w4.heap.size) := Lib.hid (set_size _ _ _)
        have Z4 := Lib.hid hz4
        clear H4 T4 R4 S4 L4 C4 hz4 hz3
        go_upto_region 4 with fail
        generalize w4.setCell ⟨w2.heap.size, 2, none⟩ (.slice q l.length d) = wq at *
        clear x0 x1 x2 f0 f1 f2 x5 y0 y1 y2 g0 g1 g2 y5
        cases hd2 : isB (hd ts4) sDot with
        | false =>
          have HE := Lib.hid (EN.out wq ts4 RQ.out hd2)
          have HO5 : Hid (O = .bad (hd ts4).2.2 1) := Lib.hid (by rw [HO4.out]; unfold expF; rw [hd2]; rfl)
          clear hd2 HO4 EY EN
          go_wp2_with fail
          refine HE.out.mono ?_
          rintro e w5 ⟨rfl, k⟩
          have C5 := Lib.hid (CQ.out.trans k)
          clear k
          go_wp2_with fail
          exact ⟨rfl, Or.inr ⟨_, _, HO5.out, rfl, C5.out⟩⟩
        | true =>
          have HE := Lib.hid (EY.out wq ts4 RQ.out hd2)
          have HO5 : Hid (O = .good (t, l) ts4.tail) := Lib.hid (by rw [HO4.out]; unfold expF; rw [hd2]; rfl)
          clear hd2 HO4 EY EN
          go_wp2_with fail
          refine HE.out.mono ?_
          rintro e w5 ⟨rfl, k1, k2⟩
          have R5 := Lib.hid k1
          have C5 := Lib.hid (CQ.out.trans k2)
          have hz5 := k2.size
          obtain ⟨x0, x1, x2, f0, f1, f2, x5⟩ := has3 (k2.has HQ.out (Ne.symm hra))
          obtain ⟨y0, y1, y2, g0, g1, g2, y5⟩ := has3 (a := .string t.nm) (b := .slice p t.args.length c) (c := .slice q l.length d) (k2.has TQ.out (by omega))
          have Z5 : Hid (w4.heap.size ≤ w5.heap.size) := Lib.hid (by have := ZQ.out; omega)
          have S5 := Lib.hid (SQ.out.frame (fun b o hk => k2.cell (by have := HZX.out; have := hk.2; have := ZQ.out; have := Z4.out; have := hz3'.out; omega) (by have := hk.1; omega)))
          have L5 := Lib.hid (LQ.out.keep (fun b o hk => k2.cell (by have := hk.2; have := ZQ.out; omega) (by have := hk.1; omega)))
          clear k1 k2 HE HQ TQ RQ SQ LQ CQ hz5
          go_wp2_with fail
          refine bodyPost_ret (v := .agg #[.string t.nm, .slice p t.args.length c, .slice q l.length d]) (by simp [results, Tryd.results43, go_sem, x0, x1, x2]) rfl (Or.inl ⟨(t, l), _, p, c, q, d, HO5.out, rfl, ⟨?_, N2.out, ?_⟩, ?_, ?_⟩)
          · refine (S5.out.frame (fun b o hk => ?_)).weaken (fun b hb => ⟨by have := hb.1; omega, by rw [set_size, set_size, set_size]; have := hb.2; have := HZX.out; have := Z4.out; have := hz3'.out; have := Z5.out; omega⟩)
            have := hk.1
            exact (cell_set (by show b ≠ w.heap.size; omega) _).trans ((cell_set (by show b ≠ w.heap.size; omega) _).trans (cell_set (by show b ≠ w.heap.size; omega) _))
          · refine (L5.out.keep (fun b o hk => ?_)).wide (fun b hb => ⟨by have := hb.1; omega, by rw [set_size, set_size, set_size]; have := hb.2; have := Z5.out; omega⟩)
            have := hk.1
            exact (cell_set (by show b ≠ w.heap.size; omega) _).trans ((cell_set (by show b ≠ w.heap.size; omega) _).trans (cell_set (by show b ≠ w.heap.size; omega) _))
          · exact ((R5.out.far (by exact hr) _).far (by exact hr) _).far (by exact hr) _
          · exact ((C5.out.put (Or.inr (by exact Nat.le_refl _)) _).put (Or.inr (by exact Nat.le_refl _)) _).put (Or.inr (by exact Nat.le_refl _)) _
end ParG
end Go.Proofs.YtfdpelokiljigaaDoor
