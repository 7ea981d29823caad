/- The reader's atom and literal. No conditions but a reader in memory. -/
import Derived.Test.YtdalepdpobcpaaaDoorParD
import Derived.Test.YtdalepdpobcpaaaDoorParK
namespace Go.Proofs.YtdalepdpobcpaaaDoor
open Go Go.RowKit
namespace ParE
open Kit LexM TermM TermI TermU LexP ParM ParA ParB ParC ParD ParK
theorem hasZ {w1 : World} {g : Nat} {a b : Value} (h : Has w1 g #[a, b]) : w1.cell? ⟨g, 0, none⟩ = some a ∧ w1.cell? ⟨g, 1, none⟩ = some b ∧ g < w1.heap.size := ⟨h.cell 0, h.cell 1, h.lt⟩
set_option maxRecDepth 100000 in
set_option maxHeartbeats 3200000 in
theorem atom_any (r : Nat) (w : World) (ts : List GTok) (h : Rd w r ts) :
    Calls Tryd.prog 54 #[.pointer (some ⟨r, 0, none⟩)] w (TmR r w (atomF ts)) := by
  obtain ⟨W1, hW1⟩ : ∃ W1, W1 = w.alloc (.cells #[.string ⟨#[]⟩, .slice none 0 0] 31) := ⟨_, rfl⟩
  have G1 : Below w.heap.size w W1 := by rw [hW1]; exact below_alloc w _
  have H1 : Hid (Has W1 w.heap.size #[.string ⟨#[]⟩, .slice none 0 0]) := Lib.hid (by rw [hW1]; exact Has.new _ _ _)
  have hr := h.lt
  have hra : r ≠ w.heap.size := by omega
  have R1 := h.below G1
  have C1 := Lib.hid (Ch.of (r := r) G1)
  have HBA := Lib.hid (batom_any W1 r ts R1)
  have HO : Hid (atomF ts = if atomB (hd ts) = true then termF 4 ts else .bad (hd ts).2.2 1) := Lib.hid rfl
  have HFN := Lib.hid (fun w' er => fail_no w' r er)
  have HFY := Lib.hid (fun w' (k : Below W1.heap.size W1 w') => fail_yes w' r 1 ts (R1.below k))
  have HT := Lib.hid (fun w' (k : Below W1.heap.size W1 w') => tm_top r w' ts (R1.below k))
  generalize atomF ts = O at *
  generalize termF 4 ts = O4 at *
  generalize hd ts = t at *
  unfold TmR at HT ⊢
  clear h R1 G1
  cases hb : atomB t with
  | false =>
    rw [hb] at HBA HO
    have HO2 : Hid (O = .bad t.2.2 1) := Lib.hid (by rw [HO.out]; rfl)
    clear hb HO HT
    go_enter Tryd.func54, Tryd.ntmps54
    go_upto_region 1 with fail
    rw [← hW1]
    clear hW1
    go_wp2_with fail
    refine HBA.out.mono ?_
    rintro e w2 ⟨rfl, k⟩
    have HF2 := Lib.hid (HFY.out w2 k)
    have C2 := Lib.hid (C1.out.below k)
    clear k HFY HBA
    go_wp2_with fail
    refine HF2.out.mono ?_
    rintro e w3 ⟨rfl, k⟩
    have C3 := Lib.hid (C2.out.below k)
    clear k HF2
    go_wp2_with fail
    exact ⟨rfl, Or.inr ⟨_, _, HO2.out, rfl, C3.out⟩⟩
  | true =>
    rw [hb] at HBA HO
    have HO2 : Hid (O = O4) := Lib.hid (by rw [HO.out]; rfl)
    clear hb HO HFY
    go_enter Tryd.func54, Tryd.ntmps54
    go_upto_region 1 with fail
    rw [← hW1]
    clear hW1
    go_wp2_with fail
    refine HBA.out.mono ?_
    rintro e w2 ⟨rfl, k⟩
    have HT2 := Lib.hid (HT.out w2 k)
    have C2 := Lib.hid (C1.out.below k)
    have H2 := Lib.hid (H1.out.step0 k)
    clear k HT HBA
    go_wp2_with fail
    refine (HFN.out _ _).mono ?_
    rintro e w3 ⟨rfl, rfl⟩
    go_wp2_with fail
    refine HT2.out.mono ?_
    rintro e w4 (⟨t', ts4, p, c, hO, rfl, hs, hn, hR, hC⟩ | ⟨a, er, hO, rfl, hC⟩)
    case inr =>
      have HO3 : Hid (O = .bad a er) := Lib.hid (HO2.out.trans hO)
      have C4 := Lib.hid (C2.out.trans hC)
      clear hO hC HT2
      go_wp2_with fail
      exact ⟨rfl, Or.inr ⟨a, er, HO3.out, rfl, C4.out⟩⟩
    case inl =>
      have HO3 : Hid (O = .good t' ts4) := Lib.hid (HO2.out.trans hO)
      have C4 := Lib.hid (C2.out.trans hC)
      obtain ⟨x1, x2, x3, x4, x5⟩ := (hC.has H2.out (Ne.symm hra)).two
      have hz2 : w.heap.size < w2.heap.size := H2.out.lt
      have S4 := Lib.hid (hs.weaken (ok' := fun b => w.heap.size < b ∧ b < w4.heap.size) (fun b hb => ⟨by have := hb.1; omega, hb.2⟩))
      have N4 := Lib.hid hn
      have R4 := Lib.hid hR
      clear hO hC HT2 hs hn hR H2 H1
      go_wp2_with fail
      refine bodyPost_ret (v := .agg #[.string t'.nm, .slice p t'.args.length c]) (by simp [results, Tryd.results54, go_sem, x1, x2]) rfl (Or.inl ⟨t', ts4, p, c, HO3.out, rfl, ?_, N4.out, ?_, ?_⟩)
      · refine (S4.out.frame (fun b o hk => ?_)).weaken (fun b hb => ⟨by have := hb.1; omega, by rw [set_size, set_size]; exact hb.2⟩)
        have := hk.1
        exact (cell_set (by show b ≠ w.heap.size; omega) _).trans (cell_set (by show b ≠ w.heap.size; omega) _)
      · exact (R4.out.far (by exact hr) _).far (by exact hr) _
      · exact (C4.out.put (Or.inr (by exact Nat.le_refl _)) _).put (Or.inr (by exact Nat.le_refl _)) _
/-- What a method that reads a literal leaves. -/
def LtR (r : Nat) (w : World) (o : Out Lt) (e : Ending) (w' : World) : Prop :=
  (∃ x ts p c, o = .good x ts ∧ e = .returned (.agg #[.bool x.1, .string x.2.nm, .slice p x.2.args.length c]) ∧ SlIn (fun b => w.heap.size ≤ b ∧ b < w'.heap.size) w' x.2.args (.slice p x.2.args.length c) ∧ x.2.nm.size ≤ maxLen ∧ Rd w' r ts ∧ Ch r w w') ∨
  (∃ a er, o = .bad a er ∧ e = .panicked (PE a er) ∧ Ch r w w')
theorem then_good {α β : Type} {o : Out α} {x : α} {r : List GTok} {f : α → List GTok → Out β} (h : o = .good x r) : o.then f = f x r := by rw [h]; rfl
theorem then_bad {α β : Type} {o : Out α} {a er : Int} {f : α → List GTok → Out β} (h : o = .bad a er) : o.then f = .bad a er := by rw [h]; rfl
set_option maxRecDepth 100000 in
set_option maxHeartbeats 3200000 in
theorem lit_any (r : Nat) (w : World) (ts : List GTok) (h : Rd w r ts) :
    Calls Tryd.prog 73 #[.pointer (some ⟨r, 0, none⟩)] w (LtR r w (litF ts)) := by
  obtain ⟨W1, hW1⟩ : ∃ W1, W1 = w.alloc (.cells #[.bool false, .string ⟨#[]⟩, .slice none 0 0] 46) := ⟨_, rfl⟩
  have G1 : Below w.heap.size w W1 := by rw [hW1]; exact below_alloc w _
  have H1 : Hid (Has W1 w.heap.size #[.bool false, .string ⟨#[]⟩, .slice none 0 0]) := Lib.hid (by rw [hW1]; exact Has.new _ _ _)
  have hr := h.lt
  have hra : r ≠ w.heap.size := by omega
  have R1 := h.below G1
  have C1 := Lib.hid (Ch.of (r := r) G1)
  have HO : Hid (litF ts = if isB (hd ts) sNot = true then (atomF ts.tail).then fun t r => .good (true, t) r else (atomF ts).then fun t r => .good (false, t) r) := Lib.hid rfl
  generalize litF ts = O at *
  have HAT := Lib.hid (fun w' tk (k : Rd w' r tk) => atom_any r w' tk k)
  unfold TmR at HAT
  unfold LtR
  have HACC : Hid (∃ (b : Bool) (tk : List GTok), O = (atomF tk).then (fun t r => .good (b, t) r) ∧ Calls Tryd.prog 55 #[.pointer (some ⟨r, 0, none⟩), .string ⟨#[110, 111, 116]⟩] W1 (fun e w' => e = .returned (.bool b) ∧ Rd w' r tk ∧ Ch r W1 w')) := Lib.hid (by
    cases hb : isB (hd ts) sNot with
    | true => exact ⟨true, ts.tail, by rw [HO.out, hb]; rfl, acc_yes W1 r ts sNot R1 lit_ne.2.2.2.2.2.2 hb⟩
    | false => exact ⟨false, ts, by rw [HO.out, hb]; rfl, (acc_no W1 r ts sNot R1 hb).mono fun _ _ ⟨a, b⟩ => ⟨a, R1.below b, Ch.of b⟩⟩)
  obtain ⟨b, tk, hOt, hacc⟩ := HACC.out
  have HA := Lib.hid hacc
  have HO2 := Lib.hid hOt
  clear h R1 G1 HO HACC hacc hOt
  go_enter Tryd.func73, Tryd.ntmps73
  go_upto_region 1 with fail
  rw [← hW1]
  clear hW1
  go_wp2_with fail
  refine HA.out.mono ?_
  rintro e w2 ⟨rfl, k1, k2⟩
  have HT2 := Lib.hid (HAT.out w2 tk k1)
  have C2 := Lib.hid (C1.out.trans k2)
  have H2 := Lib.hid (k2.has H1.out (Ne.symm hra))
  clear k1 k2 HA HAT
  go_wp2_with fail
  refine HT2.out.mono ?_
  rintro e w4 (⟨t', ts4, p, c, hO, rfl, hs, hn, hR, hC⟩ | ⟨a, er, hO, rfl, hC⟩)
  case inr =>
    have HO3 : Hid (O = .bad a er) := Lib.hid (HO2.out.trans (then_bad hO))
    have C4 := Lib.hid (C2.out.trans hC)
    clear hO hC HT2
    go_wp2_with fail
    exact ⟨rfl, Or.inr ⟨a, er, HO3.out, rfl, C4.out⟩⟩
  case inl =>
    have HO3 : Hid (O = .good (b, t') ts4) := Lib.hid (HO2.out.trans (then_good hO))
    have C4 := Lib.hid (C2.out.trans hC)
    have H4 := hC.has H2.out (Ne.symm hra)
    have x0 := H4.cell 0
    have x1 := H4.cell 1
    have x2 := H4.cell 2
    have f0 := H4.free 0
    have f1 := H4.free 1
    have f2 := H4.free 2
    have x5 := H4.lt
    simp only [List.getElem?_toArray, List.getElem?_cons_zero, List.getElem?_cons_succ] at x0 x1 x2
    have hz2 : w.heap.size < w2.heap.size := H2.out.lt
    have S4 := Lib.hid (hs.weaken (ok' := fun b => w.heap.size < b ∧ b < w4.heap.size) (fun b hb => ⟨by have := hb.1; omega, hb.2⟩))
    have N4 := Lib.hid hn
    have R4 := Lib.hid hR
    clear hO hC HT2 hs hn hR H2 H1 H4
    go_wp2_with fail
    refine bodyPost_ret (v := .agg #[.bool b, .string t'.nm, .slice p t'.args.length c]) (by simp [results, Tryd.results73, go_sem, x0, x1, x2]) rfl (Or.inl ⟨(b, t'), ts4, p, c, HO3.out, rfl, ?_, N4.out, ?_, ?_⟩)
    · refine (S4.out.frame (fun b o hk => ?_)).weaken (fun b hb => ⟨by have := hb.1; omega, by rw [set_size, set_size, set_size]; exact hb.2⟩)
      have := hk.1
      exact (cell_set (by show b ≠ w.heap.size; omega) _).trans ((cell_set (by show b ≠ w.heap.size; omega) _).trans (cell_set (by show b ≠ w.heap.size; omega) _))
    · exact ((R4.out.far (by exact hr) _).far (by exact hr) _).far (by exact hr) _
    · exact ((C4.out.put (Or.inr (by exact Nat.le_refl _)) _).put (Or.inr (by exact Nat.le_refl _)) _).put (Or.inr (by exact Nat.le_refl _)) _
end ParE
end Go.Proofs.YtdalepdpobcpaaaDoor
