/- The reader's term. No conditions but a reader in memory. -/
import Derived.Test.YtdalepdpobcpaaaDoorParC
namespace Go.Proofs.YtdalepdpobcpaaaDoor
open Go Go.RowKit
namespace ParD
open Kit LexM TermM TermI TermU LexP ParM ParA ParB ParC
theorem cell_set {w : World} {g o : Nat} {p : Addr} (h : g ≠ p.block) (u : Value) : (w.setCell p u).cell? ⟨g, o, none⟩ = w.cell? ⟨g, o, none⟩ :=
  World.cell?_of_block (w := w) (a := ⟨g, o, none⟩) (Below.heap_setCell _ _ _ _ h)
theorem set_size (w : World) (p : Addr) (u : Value) : (w.setCell p u).heap.size = w.heap.size := by simp [World.setCell]
theorem termF_hbad (d : Nat) : ∀ ts, begB (hd ts) = false → ∃ a er, termF d ts = .bad a er := fun _ h => ⟨_, _, termF_bad h⟩
set_option maxRecDepth 100000 in
set_option maxHeartbeats 6400000 in
theorem tm_step (d : Nat) (L : Int) (hL : L = 5 - (d : Int)) (hd4 : d ≤ 4) (r : Nat)
    (IH : ∀ d', d = d' + 1 → ∀ (w : World) (ts : List GTok), Rd w r ts → Calls Tryd.prog 37 #[.pointer (some ⟨r, 0, none⟩), .int .i64 (L + 1)] w (TmR r w (termF d' ts)))
    (w : World) (ts : List GTok) (h : Rd w r ts) :
    Calls Tryd.prog 37 #[.pointer (some ⟨r, 0, none⟩), .int .i64 L] w (TmR r w (termF d ts)) := by
  obtain ⟨W1, hW1⟩ : ∃ W1, W1 = w.alloc (.cells #[.string ⟨#[]⟩, .slice none 0 0] 31) := ⟨_, rfl⟩
  have G1 : Below w.heap.size w W1 := by rw [hW1]; exact below_alloc w _
  have H1 : Has W1 w.heap.size #[.string ⟨#[]⟩, .slice none 0 0] := by rw [hW1]; exact Has.new _ _ _
  have hr := h.lt
  have R1 := h.below G1
  have HBT := Lib.hid (bterm_any W1 r ts R1)
  cases hbg : begB (hd ts) with
  | false =>
    have HO : Hid (termF d ts = .bad (hd ts).2.2 1) := Lib.hid (termF_bad hbg)
    rw [hbg] at HBT
    have HFY := Lib.hid (fun w' (k : Below W1.heap.size W1 w') => fail_yes w' r 1 ts (R1.below k))
    have C1 := Lib.hid (Ch.of (r := r) G1)
    generalize termF d ts = O at *
    clear hbg h R1 G1 H1 hL IH
    unfold TmR
    go_enter Tryd.func37, Tryd.ntmps37
    go_upto_region 1 with fail
    rw [← hW1]
    clear hW1
    go_wp2_with fail
    refine HBT.out.mono ?_
    rintro e w2 ⟨rfl, k⟩
    have HF2 := Lib.hid (HFY.out w2 k)
    have C2 := Lib.hid (C1.out.below k)
    clear k HFY HBT
    go_wp2_with fail
    refine HF2.out.mono ?_
    rintro e w3 ⟨rfl, k⟩
    have C3 := Lib.hid (C2.out.below k)
    clear k HF2
    go_wp2_with fail
    exact ⟨rfl, Or.inr ⟨_, _, HO.out, rfl, C3.out⟩⟩
  | true =>
    rw [hbg] at HBT
    have HFN := Lib.hid (fun w' er => fail_no w' r er)
    have C1 := Lib.hid (Ch.of (r := r) G1)
    cases d with
    | zero =>
      have HO : Hid (termF 0 ts = .bad (hd ts).2.2 3) := Lib.hid (by simp [termF, hbg])
      have HFY := Lib.hid (fun w' (k : Below W1.heap.size W1 w') => fail_yes w' r 3 ts (R1.below k))
      have hL5 : L = 5 := by omega
      subst hL5
      generalize termF 0 ts = O at *
      clear hbg h R1 G1 H1 hL IH hd4
      unfold TmR
      go_enter Tryd.func37, Tryd.ntmps37
      go_upto_region 1 with fail
      rw [← hW1]
      clear hW1
      go_wp2_with fail
      refine HBT.out.mono ?_
      rintro e w2 ⟨rfl, k⟩
      have HF2 := Lib.hid (HFY.out w2 k)
      have C2 := Lib.hid (C1.out.below k)
      clear k HFY HBT
      go_wp2_with fail
      refine (HFN.out _ _).mono ?_
      rintro e w3 ⟨rfl, rfl⟩
      go_wp2_with fail
      refine HF2.out.mono ?_
      rintro e w3 ⟨rfl, k⟩
      have C3 := Lib.hid (C2.out.below k)
      clear k HF2
      go_wp2_with fail
      exact ⟨rfl, Or.inr ⟨_, _, HO.out, rfl, C3.out⟩⟩
    | succ d =>
      have HO : Hid (termF (d + 1) ts = if (hd ts).1 = 1 then (argsF (termF d) ts.tail).then fun l r => .good (.mk (hd ts).2.1 l) r else .good (.mk (hd ts).2.1 []) ts.tail) := Lib.hid (by simp [termF, hbg])
      have HP := Lib.hid (fun w1 (k : Below W1.heap.size W1 w1) => pass_any w1 r ts (R1.below k) (Or.inl (begB_ne hbg)))
      have HN := Lib.hid h.nm
      have HA := Lib.hid (fun w' ts' (hR : Rd w' r ts') => args_any (termF d) (termF_hbad d) (L + 1) r (IH d rfl) w' ts' hR)
      have hL4 : decide (4 < L) = false := by simp; omega
      have hL1 : 1 ≤ L := by omega
      have hL2 : L ≤ 4 := by omega
      have H1' := Lib.hid H1
      have hsz1 : W1.heap.size = w.heap.size + 1 := by rw [hW1]; simp
      have HS1 := Lib.hid hsz1
      unfold Psd at HP
      generalize termF (d + 1) ts = O at *
      generalize hd ts = t at *
      generalize ts.tail = ts2 at *
      have hra : r ≠ w.heap.size := by omega
      clear hbg h R1 G1 H1 hL IH hd4 hsz1
      unfold TmR
      go_enter Tryd.func37, Tryd.ntmps37
      go_upto_region 1 with fail
      rw [← hW1]
      clear hW1
      go_wp2_with fail
      refine HBT.out.mono ?_
      rintro e w2 ⟨rfl, k⟩
      have HP2 := Lib.hid (HP.out w2 k)
      have C2 := Lib.hid (C1.out.below k)
      have H2 := Lib.hid (H1'.out.step0 k)
      have hz2 := k.size
      clear k HP HBT
      go_wp2_with fail
      refine (HFN.out _ _).mono ?_
      rintro e w3 ⟨rfl, rfl⟩
      go_wp2_with fail
      refine (HFN.out _ _).mono ?_
      rintro e w3 ⟨rfl, rfl⟩
      go_wp2_with fail
      refine HP2.out.mono ?_
      rintro e w4 ⟨rfl, k1, k2⟩
      have C4 := Lib.hid (C2.out.trans k2)
      have H4 := Lib.hid (k2.has H2.out (Ne.symm hra))
      have R4 := Lib.hid k1
      have hz4 : w.heap.size + 1 ≤ w4.heap.size := by have := k2.size; have := HS1.out; omega
      clear k1 k2 HP2 H2
      by_cases hk1 : t.1 = 1
      · have HO2 : Hid (O = (argsF (termF d) ts2).then fun l r => .good (.mk t.2.1 l) r) := Lib.hid (by rw [HO.out, if_pos hk1])
        have hkb : (t.1 == 1) = true := by simpa using hk1
        have W5 := Lib.hid (HA.out ((w4.alloc (.cells #[.int .i64 t.1, .string t.2.1, .int .i64 t.2.2] 61)).alloc (.cells #[.string t.2.1, .slice none 0 0] 31)) ts2 ((R4.out.alloc _).alloc _))
        unfold TsR at W5
        clear hk1 HO
        go_wp2_with fail
        refine W5.out.mono ?_
        rintro e w6 (⟨l, ts6, p, c, hO, rfl, hs, hR, hC⟩ | ⟨a, er, hO, rfl, hC⟩)
        case inr =>
          have HO3 : Hid (O = .bad a er) := Lib.hid (by rw [HO2.out, hO]; rfl)
          have C6 := Lib.hid (((C4.out.alloc _).alloc _).trans hC)
          clear hO hC W5
          go_wp2_with fail
          exact ⟨rfl, Or.inr ⟨_, _, HO3.out, rfl, C6.out⟩⟩
        case inl =>
          have HO3 : Hid (O = .good (.mk t.2.1 l) ts6) := Lib.hid (by rw [HO2.out, hO]; rfl)
          have C6 := Lib.hid (((C4.out.alloc _).alloc _).trans hC)
          have H6 := hC.has ((H4.out.alloc _).alloc _) (Ne.symm hra)
          have T6 := hC.has (Has.new1 w4 _ _ _) (by omega)
          have R6 := Lib.hid hR
          have S6 := Lib.hid hs
          have hz6 := hC.size
          rw [World.size_alloc, World.size_alloc] at hz6
          have H6' := Lib.hid H6
          have T6' := Lib.hid T6
          obtain ⟨x1, x2, x3, x4, x5⟩ := H6.two
          obtain ⟨y1, y2, y3, y4, y5⟩ := T6.two
          clear hO hC W5 hs hR H6 T6 H4 R4 HA
          have Z6 := Lib.hid hz6
          have Z4 := Lib.hid hz4
          clear hz6
          go_wp2_with fail
          have hz6 := Z6.out
          refine bodyPost_ret (v := .agg #[.string t.2.1, .slice p l.length c]) (by simp [results, Tryd.results37, go_sem, x1, x2]) rfl (Or.inl ⟨.mk t.2.1 l, ts6, p, c, HO3.out, rfl, ?_, HN.out, ?_, ?_⟩)
          · refine (S6.out.frame (fun b o hk => ?_)).weaken (fun b hb => ?_)
            · have hk1 := hk.1
              rw [World.size_alloc, World.size_alloc] at hk1
              exact (cell_set (by show b ≠ w.heap.size; omega) _).trans ((cell_set (by show b ≠ w.heap.size; omega) _).trans (cell_set (by show b ≠ w4.heap.size + 1; omega) _))
            · have hb1 := hb.1
              rw [World.size_alloc, World.size_alloc] at hb1
              exact ⟨by omega, by rw [set_size, set_size, set_size]; exact hb.2⟩
          · exact ((R6.out.far (by show r < w4.heap.size + 1; omega) _).far (by exact hr) _).far (by exact hr) _
          · exact ((C6.out.put (Or.inr (by show w.heap.size ≤ w4.heap.size + 1; omega)) _).put (Or.inr (by exact Nat.le_refl _)) _).put (Or.inr (by exact Nat.le_refl _)) _
      · have HO2 : Hid (O = .good (.mk t.2.1 []) ts2) := Lib.hid (by rw [HO.out, if_neg hk1])
        have hkb : (t.1 == 1) = false := by simpa using hk1
        obtain ⟨x1, x2, x3, x4, x5⟩ := H4.out.two
        clear hk1 HO HA
        go_wp2_with fail
        refine bodyPost_ret (v := .agg #[.string t.2.1, .slice none 0 0]) (by simp [results, Tryd.results37, go_sem, x1, x2, x5]) rfl (Or.inl ⟨.mk t.2.1 [], ts2, none, 0, HO2.out, rfl, SlIn.none _ _, HN.out, ?_, ?_⟩)
        · exact (((R4.out.far (by exact hr) _).far (by exact hr) _).alloc _).alloc _
        · exact (((C4.out.put (Or.inr (by exact Nat.le_refl _)) _).put (Or.inr (by exact Nat.le_refl _)) _).alloc _).alloc _
theorem tm_any (d : Nat) : ∀ (L : Int), L = 5 - (d : Int) → d ≤ 4 → ∀ (r : Nat) (w : World) (ts : List GTok), Rd w r ts →
    Calls Tryd.prog 37 #[.pointer (some ⟨r, 0, none⟩), .int .i64 L] w (TmR r w (termF d ts)) := by
  induction d with
  | zero => exact fun L hL hd r w ts h => tm_step 0 L hL hd r (fun d' e => by omega) w ts h
  | succ d ih => exact fun L hL hd r w ts h => tm_step (d + 1) L hL hd r (fun d' e w ts h => by
      obtain rfl : d = d' := by omega
      exact ih (L + 1) (by omega) (by omega) r w ts h) w ts h
/-- The term at the first level. -/
theorem tm_top (r : Nat) (w : World) (ts : List GTok) (h : Rd w r ts) :
    Calls Tryd.prog 37 #[.pointer (some ⟨r, 0, none⟩), .int .i64 1] w (TmR r w (termF 4 ts)) := tm_any 4 1 (by decide) (by decide) r w ts h
end ParD
end Go.Proofs.YtdalepdpobcpaaaDoor
