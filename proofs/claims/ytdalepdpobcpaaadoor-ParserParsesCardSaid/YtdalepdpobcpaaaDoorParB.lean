/- The reader's small methods: pass, accept, expect, and what begins with the next token. No conditions but a reader in memory. -/
import Derived.Test.YtdalepdpobcpaaaDoorParA
namespace Go.Proofs.YtdalepdpobcpaaaDoor
open Go Go.RowKit
namespace ParB
open Kit LexM TermM TermI TermU LexP ParM ParA
theorem size3 (w : World) : (sizeOf (Tryd.prog.elem 57)).run Tryd.prog w = .ok 3 w := by kernel_rfl
theorem elemK : Tryd.prog.underlying 57 = some (.slice (Tryd.prog.elem 57)) := by kernel_rfl
theorem sl_one (g o n c : Nat) (h : 2 ≤ n) (hc : n ≤ c) (W : World) : (Instr.slice 57 (.slice (some ⟨g, o, none⟩) n c) (some (.int .i64 1)) none none).run Tryd.prog W = .ok (.slice (some ⟨g, o + 3, none⟩) (n - 1) (c - 1)) W := by
  rw [run_slice_l W 57 (some ⟨g, o, none⟩) n c elemK .i64 1 (by omega) (by omega), size3]
  simp only [Result.andThen, sliced, Option.map_some]
  rw [if_neg (by simp; omega), show ((1 : Int).toNat * 3) = 3 from rfl, addr_add]
  rfl
theorem toks_tail {w : World} {g o : Nat} {ts : List GTok} (h : Toks w g o ts) : Toks w g (o + 3) ts.tail := by
  refine ⟨h.1, fun i t hi => ?_⟩
  have h2 := h.2 (i + 1) t (by rw [← List.getElem?_tail]; exact hi)
  rw [show o + 3 + i * 3 = o + (i + 1) * 3 by omega]
  exact h2
/-- What pass leaves. -/
def Psd (r : Nat) (w : World) (ts : List GTok) (e : Ending) (w' : World) : Prop :=
  e = .returned (.agg #[.int .i64 (hd ts).1, .string (hd ts).2.1, .int .i64 (hd ts).2.2]) ∧ Rd w' r ts.tail ∧ Ch r w w'
set_option maxRecDepth 100000 in
set_option maxHeartbeats 800000 in
theorem pass_any (w : World) (r : Nat) (ts : List GTok) (h : Rd w r ts) (h1 : (hd ts).1 ≠ 0 ∨ (hd ts).2.1 ≠ ⟨#[]⟩) :
    Calls Tryd.prog 60 #[.pointer (some ⟨r, 0, none⟩)] w (Psd r w ts) := by
  have HN := Lib.hid (next_any (w.alloc (.cells #[.int .i64 0, .string ⟨#[]⟩, .int .i64 0] 61)) r ts (h.alloc _))
  obtain ⟨hw, hm, g, o, c, h3, h4, h5, h6, h7⟩ := h
  obtain ⟨hw2, hl⟩ := hw.tail h1
  have SL := sl_one g o ts.length c hl h4
  have TT := Lib.hid (toks_tail h7)
  have H3 := Lib.hid h3
  have HW2 := Lib.hid hw2
  have HT : Hid (ts.tail.length = ts.length - 1) := Lib.hid (by simp)
  have HM : Hid (∀ t ∈ ts.tail, t.2.1.size ≤ maxLen) := Lib.hid (fun t ht => hm t (List.mem_of_mem_tail ht))
  have hlr := h3.lt
  have hlg := h7.1
  unfold Psd
  generalize hd ts = t at *
  generalize ts.tail = ts2 at *
  generalize ts.length = n at *
  clear h3 h7 hw hw2 hm h1
  go_enter Tryd.func60, Tryd.ntmps60
  go_wp2_with fail
  refine HN.out.mono ?_
  rintro e w1 ⟨rfl, k⟩
  have H0 : Has w1 w.heap.size #[.int .i64 0, .string ⟨#[]⟩, .int .i64 0] := Has.made k
  have H4 := H3.out.step k
  have T4 := (TT.out.below (below_alloc w _) hlg).below k (by rw [World.size_alloc]; omega)
  have T4' := Lib.hid T4
  have G4 := Lib.hid ((below_alloc w _).trans (k.mono (by simp)))
  have hz0 := H0.lt
  have hr1 := H4.lt
  have hc := H4.cell 0
  simp only [List.getElem?_toArray, List.getElem?_cons_zero] at hc
  have hf := H4.free 0
  have H4' := Lib.hid H4
  have H0' := Lib.hid H0
  have a0 := H0.cell 0
  have a1 := H0.cell 1
  have a2 := H0.cell 2
  have f0 := H0.free 0
  have f1 := H0.free 1
  have f2 := H0.free 2
  simp only [List.getElem?_toArray, List.getElem?_cons_zero, List.getElem?_cons_succ] at a0 a1 a2
  clear k H4 H0 T4 HN
  go_wp2_with fail
  have R1 : Rd (w1.setCell ⟨r, 0, none⟩ (.slice (some ⟨g, o + 3, none⟩) (n - 1) (c - 1))) r ts2 := by
    refine ⟨HW2.out, HM.out, g, o + 3, c - 1, ?_, by rw [HT.out]; omega, by omega, h6, by simpa [World.setCell] using T4'.out.1, fun i u hi => ?_⟩
    · rw [HT.out]
      exact H4'.out.set 0 _
    · have hcc : ∀ off, (w1.setCell ⟨r, 0, none⟩ (.slice (some ⟨g, o + 3, none⟩) (n - 1) (c - 1))).cell? ⟨g, off, none⟩ = w1.cell? ⟨g, off, none⟩ := fun off => World.cell?_of_block (w := w1) (a := ⟨g, off, none⟩) (Below.heap_setCell _ _ _ _ (by show g ≠ r; omega))
      exact ⟨(hcc _).trans (T4'.out.2 i u hi).1, (hcc _).trans (T4'.out.2 i u hi).2.1, (hcc _).trans (T4'.out.2 i u hi).2.2⟩
  refine bodyPost_ret (v := .agg #[.int .i64 t.1, .string t.2.1, .int .i64 t.2.2]) (by simp [results, Tryd.results60, go_sem, a0, a1, a2, hz0]) rfl ⟨rfl, ?_, ?_⟩
  · exact (((R1.far (by exact hlr) _).far (by exact hlr) _).far (by exact hlr) _).alloc _
  · exact (((((Ch.of G4.out).put (Or.inl rfl) _).put (Or.inr (by exact Nat.le_refl _)) _).put (Or.inr (by exact Nat.le_refl _)) _).put (Or.inr (by exact Nat.le_refl _)) _).alloc _
theorem lit_ne : sOpen ≠ ⟨#[]⟩ ∧ sShut ≠ ⟨#[]⟩ ∧ sComma ≠ ⟨#[]⟩ ∧ sDot ≠ ⟨#[]⟩ ∧ sIf ≠ ⟨#[]⟩ ∧ sAnd ≠ ⟨#[]⟩ ∧ sNot ≠ ⟨#[]⟩ := by decide
set_option maxRecDepth 100000 in
set_option maxHeartbeats 800000 in
theorem acc_no (w : World) (r : Nat) (ts : List GTok) (s : ByteArray) (h : Rd w r ts) (hb : isB (hd ts) s = false) :
    Calls Tryd.prog 55 #[.pointer (some ⟨r, 0, none⟩), .string s] w fun e w' => e = .returned (.bool false) ∧ Below w.heap.size w w' := by
  have HN := Lib.hid (next_any w r ts h)
  have F1 := fld1
  unfold isB at hb
  have hb2 : ((hd ts).2.1.toList != s.toList) = true := by rw [bne, hb]; rfl
  generalize hd ts = t at *
  clear h
  go_enter Tryd.func55, Tryd.ntmps55
  go_wp2_with fail
  refine HN.out.mono ?_
  rintro e w1 ⟨rfl, k⟩
  have K := Lib.hid k
  clear k HN
  go_wp2_with fail
  go_ret
  exact ⟨rfl, K.out⟩
set_option maxRecDepth 100000 in
set_option maxHeartbeats 800000 in
theorem acc_yes (w : World) (r : Nat) (ts : List GTok) (s : ByteArray) (h : Rd w r ts) (hs : s ≠ ⟨#[]⟩) (hb : isB (hd ts) s = true) :
    Calls Tryd.prog 55 #[.pointer (some ⟨r, 0, none⟩), .string s] w fun e w' => e = .returned (.bool true) ∧ Rd w' r ts.tail ∧ Ch r w w' := by
  have HN := Lib.hid (next_any w r ts h)
  have HP := Lib.hid (fun w1 (k : Below w.heap.size w w1) => pass_any w1 r ts (h.below k) (Or.inr (isB_ne hb hs)))
  have F1 := fld1
  unfold isB at hb
  have hb2 : ((hd ts).2.1.toList != s.toList) = false := by rw [bne, hb]; rfl
  unfold Psd at HP
  generalize hd ts = t at *
  generalize ts.tail = ts2 at *
  clear h hs
  go_enter Tryd.func55, Tryd.ntmps55
  go_wp2_with fail
  refine HN.out.mono ?_
  rintro e w1 ⟨rfl, k⟩
  have HP2 := Lib.hid (HP.out w1 k)
  have K := Lib.hid (Ch.of (r := r) k)
  clear k HN HP
  go_wp2_with fail
  refine HP2.out.mono ?_
  rintro e w2 ⟨rfl, k1, k2⟩
  have K1 := Lib.hid k1
  have K2 := Lib.hid (K.out.trans k2)
  clear k1 k2 HP2
  go_wp2_with fail
  go_ret
  exact ⟨rfl, K1.out, K2.out⟩
set_option maxRecDepth 100000 in
set_option maxHeartbeats 800000 in
theorem exp_no (w : World) (r : Nat) (ts : List GTok) (s : ByteArray) (h : Rd w r ts) (hb : isB (hd ts) s = false) :
    Calls Tryd.prog 57 #[.pointer (some ⟨r, 0, none⟩), .string s] w fun e w' => e = .panicked (PE (hd ts).2.2 1) ∧ Ch r w w' := by
  have HN := Lib.hid (acc_no w r ts s h hb)
  have HF := Lib.hid (fun w1 (k : Below w.heap.size w w1) => fail_yes w1 r 1 ts (h.below k))
  generalize hd ts = t at *
  clear h hb
  go_enter Tryd.func57, Tryd.ntmps57
  go_wp2_with fail
  refine HN.out.mono ?_
  rintro e w1 ⟨rfl, k⟩
  have HF2 := Lib.hid (HF.out w1 k)
  have K := Lib.hid (Ch.of (r := r) k)
  clear k HN HF
  go_wp2_with fail
  refine HF2.out.mono ?_
  rintro e w2 ⟨rfl, k2⟩
  have K2 := Lib.hid (K.out.below k2)
  clear k2 HF2
  go_wp2_with fail
  exact ⟨rfl, rfl, K2.out⟩
set_option maxRecDepth 100000 in
set_option maxHeartbeats 800000 in
theorem exp_yes (w : World) (r : Nat) (ts : List GTok) (s : ByteArray) (h : Rd w r ts) (hs : s ≠ ⟨#[]⟩) (hb : isB (hd ts) s = true) :
    Calls Tryd.prog 57 #[.pointer (some ⟨r, 0, none⟩), .string s] w fun e w' => e = .returned (.tuple #[]) ∧ Rd w' r ts.tail ∧ Ch r w w' := by
  have HN := Lib.hid (acc_yes w r ts s h hs hb)
  have HF := Lib.hid (fun w1 => fail_no w1 r 1)
  generalize ts.tail = ts2 at *
  clear h hb hs
  go_enter Tryd.func57, Tryd.ntmps57
  go_wp2_with fail
  refine HN.out.mono ?_
  rintro e w1 ⟨rfl, k1, k2⟩
  have K1 := Lib.hid k1
  have K2 := Lib.hid k2
  clear k1 k2 HN
  go_wp2_with fail
  refine (HF.out _).mono ?_
  rintro e w2 ⟨rfl, rfl⟩
  go_wp2_with fail
  go_end0
  exact ⟨rfl, K1.out, K2.out⟩
set_option maxRecDepth 100000 in
set_option maxHeartbeats 800000 in
theorem batom_any (w : World) (r : Nat) (ts : List GTok) (h : Rd w r ts) :
    Calls Tryd.prog 48 #[.pointer (some ⟨r, 0, none⟩)] w fun e w' => e = .returned (.bool (atomB (hd ts))) ∧ Below w.heap.size w w' := by
  have HN := Lib.hid (next_any w r ts h)
  have F0 := fld0
  have HR : Hid (atomB (hd ts) = ((hd ts).1 == 1)) := Lib.hid rfl
  generalize hd ts = t at *
  generalize atomB t = R at *
  clear h
  go_enter Tryd.func48, Tryd.ntmps48
  go_wp2_with fail
  refine HN.out.mono ?_
  rintro e w1 ⟨rfl, k⟩
  have K := Lib.hid k
  clear k HN
  go_wp2_with fail
  go_ret
  exact ⟨ret_bool HR.out.symm, K.out⟩
set_option maxRecDepth 100000 in
set_option maxHeartbeats 800000 in
theorem bterm_any (w : World) (r : Nat) (ts : List GTok) (h : Rd w r ts) :
    Calls Tryd.prog 59 #[.pointer (some ⟨r, 0, none⟩)] w fun e w' => e = .returned (.bool (begB (hd ts))) ∧ Below w.heap.size w w' := by
  have HN := Lib.hid (next_any w r ts h)
  have F0 := fld0
  have HR : Hid (begB (hd ts) = ((hd ts).1 == 1 || ((hd ts).1 == 2 || (hd ts).1 == 3))) := Lib.hid rfl
  generalize hd ts = t at *
  generalize begB t = R at *
  clear h
  obtain ⟨b1, h1⟩ : ∃ b, (t.1 == 1) = b := ⟨_, rfl⟩
  obtain ⟨b2, h2⟩ : ∃ b, (t.1 == 2) = b := ⟨_, rfl⟩
  obtain ⟨b3, h3⟩ : ∃ b, (t.1 == 3) = b := ⟨_, rfl⟩
  rw [h1, h2, h3] at HR
  cases b1 <;> cases b2
  all_goals
    go_enter Tryd.func59, Tryd.ntmps59
    go_wp2_with fail
    refine HN.out.mono ?_
    rintro e w1 ⟨rfl, k⟩
    have K := Lib.hid k
    clear k
    go_wp2_with fail
    go_ret
    exact ⟨ret_bool (by rw [HR.out]; simp), K.out⟩
set_option maxRecDepth 100000 in
set_option maxHeartbeats 800000 in
theorem blit_any (w : World) (r : Nat) (ts : List GTok) (h : Rd w r ts) :
    Calls Tryd.prog 74 #[.pointer (some ⟨r, 0, none⟩)] w fun e w' => e = .returned (.bool (atomB (hd ts) || isB (hd ts) sNot)) ∧ Below w.heap.size w w' := by
  have HN := Lib.hid (fun w1 (k : Below w.heap.size w w1) => next_any w1 r ts (h.below k))
  have HA := Lib.hid (batom_any w r ts h)
  have F1 := fld1
  have HR : Hid (isB (hd ts) sNot = ((hd ts).2.1.toList == (⟨#[110, 111, 116]⟩ : ByteArray).toList)) := Lib.hid rfl
  generalize hd ts = t at *
  generalize isB t sNot = R at *
  generalize atomB t = b1 at *
  clear h
  cases b1
  · go_enter Tryd.func74, Tryd.ntmps74
    go_wp2_with fail
    refine HA.out.mono ?_
    rintro e w1 ⟨rfl, k⟩
    have HN2 := Lib.hid (HN.out w1 k)
    have K := Lib.hid k
    clear k HN HA
    go_wp2_with fail
    refine HN2.out.mono ?_
    rintro e w2 ⟨rfl, k⟩
    have K2 := Lib.hid (next0 K.out k)
    clear k
    go_wp2_with fail
    go_ret
    exact ⟨ret_bool (by rw [HR.out]; simp), K2.out⟩
  · go_enter Tryd.func74, Tryd.ntmps74
    go_wp2_with fail
    refine HA.out.mono ?_
    rintro e w1 ⟨rfl, k⟩
    have K := Lib.hid k
    clear k HN HA
    go_wp2_with fail
    go_ret
    exact ⟨ret_bool (by simp), K.out⟩
end ParB
end Go.Proofs.YtdalepdpobcpaaaDoor
