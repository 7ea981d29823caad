/- Texts laid together: PriK; PriAw; ParX; ParX2. Their own heads stand before each. -/
import Derived.Test.YtfdpelokiljigaaDoorPk16
import Derived.Test.YtfdpelokiljigaaDoorPk11
/- What a valid rule's text measures; the code's Rules. No conditions on sizes. -/
namespace Go.Proofs.YtfdpelokiljigaaDoor
open Go Go.RowKit
namespace PriK
open LexM TermM TermI Kit TermN TermU TermT ParM ParK ParP ParQ PriM PriJ PriA PriB PriC PriD PriG PriI
def mx : Nat → Nat
  | 0 => 0
  | d + 1 => 18 + 4 * (mx d + 1)
theorem tail_le (M : Nat) : ∀ l : List Tm, (∀ t ∈ l, (textT t).length ≤ M) → (tailT l).length ≤ l.length * (M + 1)
  | [], _ => by simp [tailT]
  | t :: l, h => by
    have h1 := h t (by simp)
    have h2 := tail_le M l (fun x hx => h x (by simp [hx]))
    have e : (l.length + 1) * (M + 1) = l.length * (M + 1) + (M + 1) := Nat.succ_mul _ _
    simp only [tailT, List.length_cons, List.length_append, e]
    omega
theorem name_le {n : ByteArray} (h : nameB n = true) : n.data.toList.length ≤ 16 := by
  unfold nameB nameL at h
  simp only [Bool.and_eq_true, decide_eq_true_eq] at h
  omega
theorem leaf_le {n : ByteArray} (h : (conB n || (!false && varB n)) = true) : n.data.toList.length ≤ 16 := by
  simp only [Bool.not_false, Bool.true_and, Bool.or_eq_true] at h
  rcases h with h | h
  · unfold conB at h
    rw [Bool.or_eq_true] at h
    rcases h with h | h
    · unfold numB isNum at h
      simp only [Bool.and_eq_true, decide_eq_true_eq] at h
      omega
    · exact name_le h
  · unfold varB varL at h
    simp only [Bool.and_eq_true, decide_eq_true_eq] at h
    omega
theorem text_le : ∀ (d : Nat) (t : Tm), validT false d t = true → (textT t).length ≤ mx d
  | 0, t, h => by cases t; simp [validT] at h
  | d + 1, .mk n l, h => by
    by_cases he : l.isEmpty = true
    · rw [validT, if_pos he] at h
      have := leaf_le h
      rw [textT, if_pos he, List.append_nil]
      unfold mx
      omega
    · rw [validT, if_neg he] at h
      simp only [Bool.and_eq_true, decide_eq_true_eq, List.all_eq_true] at h
      obtain ⟨⟨h1, h2⟩, h3⟩ := h
      have hn := name_le h2
      have ht := tail_le (mx d) l (fun t ht => text_le d t (h3 t ht))
      have hm := Nat.mul_le_mul_right (mx d + 1) h1
      rw [textT, if_neg he, List.length_append, List.length_cons, List.length_append, List.length_drop]
      unfold mx
      simp only [List.length_cons, List.length_nil]
      omega
theorem at_le {t : Tm} (h : atB t = true) : (textT t).length ≤ 1870 := by
  unfold atB at h
  rw [Bool.and_eq_true] at h
  exact text_le 4 t h.2
theorem lens_le (M : Nat) : ∀ X : List (List UInt8), (∀ x ∈ X, x.length ≤ M) → Lib.lens X ≤ X.length * M
  | [], _ => by simp [Lib.lens]
  | x :: X, h => by
    have h1 := h x (by simp)
    have h2 := lens_le M X (fun y hy => h y (by simp [hy]))
    have e : (X.length + 1) * M = X.length * M + M := Nat.succ_mul _ _
    simp only [Lib.lens, List.map_cons, List.sum_cons, List.length_cons, e] at h2 ⊢
    omega
theorem join_len_le (M : Nat) (X : List (List UInt8)) (sep : List UInt8) (h : ∀ x ∈ X, x.length ≤ M) : (Lib.join X sep).length ≤ X.length * (M + sep.length) := by
  cases X with
  | nil => simp [Lib.join_nil]
  | cons x r =>
    have := lens_le M (x :: r) h
    rw [Lib.join_length, Nat.mul_add]
    simp only [List.length_cons] at this ⊢
    have e : (r.length + 1) * sep.length = r.length * sep.length + sep.length := Nat.succ_mul _ _
    rw [Nat.mul_comm sep.length r.length]
    omega
theorem vl_parts {r : Rl} (h : vlB r = true) : r.2.length ≤ 8 ∧ atB r.1 = true ∧ ∀ x ∈ r.2, atB x.2 = true := by
  unfold vlB at h
  simp only [Bool.and_eq_true, decide_eq_true_eq, List.all_eq_true] at h
  exact ⟨h.1, h.2.1, h.2.2⟩
theorem lit_le {x : Lt} (h : atB x.2 = true) : (litX x).length ≤ 1874 := by
  have := at_le h
  unfold litX
  rw [List.length_append]
  split <;> simp <;> omega
theorem body_le {l : List Lt} (h8 : l.length ≤ 8) (h : ∀ x ∈ l, atB x.2 = true) : (bodyX l).length ≤ 15032 := by
  have h1 := join_len_le 1874 (l.map litX) [32, 97, 110, 100, 32] (fun x hx => by
    obtain ⟨y, hy, rfl⟩ := List.mem_map.1 hx
    exact lit_le (h y hy))
  rw [List.length_map] at h1
  unfold bodyX
  simp only [List.length_cons, List.length_nil] at h1
  omega
theorem vl_sm {r : Rl} (h : vlB r = true) : Sm r := by
  obtain ⟨h1, h2, h3⟩ := vl_parts h
  have := at_le h2
  have := body_le h1 h3
  exact ⟨by omega, by omega, fun x hx => by have := at_le (h3 x hx); omega, by omega⟩
theorem line_le {r : Rl} (h : vlB r = true) : (lineX r).length ≤ 20000 := by
  obtain ⟨h1, h2, h3⟩ := vl_parts h
  have := at_le h2
  have := body_le h1 h3
  unfold lineX ruleX
  rw [List.length_append, List.length_append, List.length_append]
  split
  · simp; omega
  · rw [List.length_append]; simp only [List.length_cons, List.length_nil]; omega
theorem desc_le {l : List Rl} (hn : l.length ≤ 128) (h : ∀ r ∈ l, vlB r = true) : (descX l).length ≤ 2560000 := by
  have h1 := join_len_le 20000 (l.map lineX) [] (fun x hx => by
    obtain ⟨y, hy, rfl⟩ := List.mem_map.1 hx
    exact line_le (h y hy))
  rw [List.length_map] at h1
  unfold descX
  simp only [List.length_nil] at h1
  omega
/-- What Rules answers. -/
def rulesF (l : List Rl) : List UInt8 × Int :=
  if 128 < l.length then ([], 2) else if l.all vlB = false then ([], 13) else if 16384 < (descX l).length then ([], 2) else (descX l, 0)
theorem bs_nil : bs [] = ⟨#[]⟩ := rfl
set_option maxRecDepth 100000 in
set_option maxHeartbeats 3200000 in
theorem rules_any (l : List Rl) (B : Nat) (w : World) (sv : Value) (hw : Wd w) (hB : B ≤ w.heap.size) (h : RIn (· < B) w l sv) :
    Calls Tryd.prog 22 #[sv] w fun e w' => e = .returned (.tuple #[.string (bs (rulesF l).1), .int .i64 (rulesF l).2]) ∧ Below w.heap.size w w' := by
  obtain ⟨p, c, rfl, hc, hm, _⟩ := RIn.row h
  by_cases h1 : 128 < l.length
  · have E : rulesF l = ([], 2) := by unfold rulesF; rw [if_pos h1]
    rw [E]
    dsimp only
    rw [bs_nil]
    have h1' : (128 : Int) < l.length := by omega
    clear h E
    generalize l.length = n at *
    go_enter Tryd.func22, Tryd.ntmps22
    go_wp2_with fail
    go_ret2
    exact ⟨rfl, Below.refl _ _⟩
  · have h1' : ¬ (128 : Int) < l.length := by omega
    by_cases h2 : l.all vlB = true
    · have hv : ∀ r ∈ l, vlB r = true := by rw [List.all_eq_true] at h2; exact h2
      have hd := desc_le (by omega) hv
      have K := Lib.hid (lines_ok l B w _ hw hB h (by omega) hv (fun r hr => vl_sm (hv r hr)) (by omega))
      have hs : (bs (descX l)).size = (descX l).length := bs_size _
      by_cases h3 : 16384 < (descX l).length
      · have E : rulesF l = ([], 2) := by unfold rulesF; rw [if_neg h1, if_neg (by simp [h2]), if_pos h3]
        rw [E]
        dsimp only
        rw [bs_nil]
        have h3' : (16384 : Int) < (bs (descX l)).size := by omega
        clear h E hv h2 hs hd
        generalize bs (descX l) = S at *
        generalize l.length = n at *
        go_enter Tryd.func22, Tryd.ntmps22
        go_wp2_with fail
        refine K.out.mono ?_
        rintro e w2 ⟨rfl, k⟩
        go_wp2_with fail
        go_ret2
        exact ⟨rfl, k⟩
      · have E : rulesF l = (descX l, 0) := by unfold rulesF; rw [if_neg h1, if_neg (by simp [h2]), if_neg h3]
        rw [E]
        dsimp only
        have h3' : ¬ (16384 : Int) < (bs (descX l)).size := by omega
        clear h E hv h2 hs hd
        generalize bs (descX l) = S at *
        generalize l.length = n at *
        go_enter Tryd.func22, Tryd.ntmps22
        go_wp2_with fail
        refine K.out.mono ?_
        rintro e w2 ⟨rfl, k⟩
        go_wp2_with fail
        go_ret2
        exact ⟨rfl, k⟩
    · have h2' : l.all vlB = false := by simpa using h2
      have E : rulesF l = ([], 13) := by unfold rulesF; rw [if_neg h1, if_pos h2']
      rw [E]
      dsimp only
      rw [bs_nil]
      have K := Lib.hid (lines_bad l B w _ hw hB h (by omega) (fun r _ hv => vl_sm hv) h2')
      clear h E h2 h2'
      generalize l.length = n at *
      go_enter Tryd.func22, Tryd.ntmps22
      go_wp2_with fail
      refine K.out.mono ?_
      rintro e w2 ⟨rfl, k⟩
      go_wp2_with fail
      go_ret2
      exact ⟨rfl, k⟩
end PriK
end Go.Proofs.YtfdpelokiljigaaDoor
/- awake of gameplayerlaw06: its examples on the plain functions. -/
namespace Go.Proofs.YtfdpelokiljigaaDoor
open Go Go.RowKit
namespace PriAw
open LexM TermM ParM ParV PriM PriD PriK
def tX : Tm := .mk ⟨#[88]⟩ []
def tP : Tm := .mk ⟨#[112]⟩ [tX]
def tQ : Tm := .mk ⟨#[113]⟩ []
def tQX : Tm := .mk ⟨#[113]⟩ [tX]
def r0 : Rl := (tP, [(false, tQ), (true, tP)])
def src : List UInt8 := [112, 32, 40, 32, 88, 32, 41, 105, 102, 10, 113, 40, 88, 41, 32, 46, 32, 35, 32, 99]
def out0 : List UInt8 := [112, 40, 88, 41, 32, 105, 102, 32, 113, 32, 97, 110, 100, 32, 110, 111, 116, 32, 112, 40, 88, 41, 46, 10, 112, 40, 88, 41, 46, 10]
def out1 : List UInt8 := [112, 40, 88, 41, 32, 105, 102, 32, 113, 40, 88, 41, 46, 10]
def out2 : List UInt8 := [112, 40, 88, 41, 44, 32, 112, 40, 88, 41]
theorem a0 : rulesF [r0, (tP, [])] = (out0, 0) := by kernel_rfl
theorem a1 : wholeF (descF 129 []) src = .good [(tP, [(false, tQX)])] [] := by kernel_rfl
theorem a2 : rulesF [(tP, [(false, tQX)])] = (out1, 0) := by kernel_rfl
theorem a3 : rulesF [(tX, [])] = ([], 13) := by kernel_rfl
theorem a4 : vlB r0 = true := by kernel_rfl
theorem a5 : termsX [tP, tP] = out2 := by kernel_rfl
end PriAw
end Go.Proofs.YtfdpelokiljigaaDoor
/- whole for terms. Condition: the reserved words lie as laid. -/
namespace Go.Proofs.YtfdpelokiljigaaDoor
open Go Go.RowKit
namespace ParX
open Kit LexM TermM TermI TermU LexE LexF LexG LexP ParM ParA ParB ParC ParD ParK ParE ParF ParG ParH ParI ParW ParV
theorem _root_.Go.Proofs.YtfdpelokiljigaaDoor.ParW.Ch2.has {g h : Nat} {a b : World} {k : Nat} {cs : Array Value} (q : Ch2 g h a b) (x : Has a k cs) (h1 : k ≠ g) (h2 : k ≠ h) : Has b k cs := by
  have hl := x.lt
  obtain ⟨t, x⟩ := x
  exact ⟨t, (q.2.2.2.2 k hl h1 h2).trans x⟩
theorem _root_.Go.Proofs.YtfdpelokiljigaaDoor.ParW.Ch2.toBelow {g h B : Nat} {a b : World} (q : Ch2 g h a b) (h1 : B ≤ g) (h2 : B ≤ h) (h3 : B ≤ a.heap.size) : Below B a b :=
  ⟨q.1, q.2.1, q.2.2.1, q.2.2.2.1, fun i hi => q.2.2.2.2 i (by omega) (by omega) (by omega)⟩
def Got2 (R : Res) (w : World) (e : Ending) (w' : World) : Prop := ∃ g cap : Nat, e = .returned (.tuple #[.slice (some ⟨g, 0, none⟩) R.1.length cap, .int .i64 0, .int .i64 0]) ∧ R.1.length ≤ cap ∧ cap ≤ maxLen ∧ Toks w' g 0 (R.1.map gt) ∧ w.heap.size ≤ g ∧ Below w.heap.size w w'
theorem lexed_ok2 {f : FuncId} {s : ByteArray} {w : World} {R : Res} (h : Calls Tryd.prog f #[.string s] w (Lexed w R)) (hR : R.2.2 = 0) :
    Calls Tryd.prog f #[.string s] w (Got2 R w) :=
  h.mono fun e w' h => by
    rcases h with ⟨h, _⟩ | ⟨_, g, cap, he, ho, hg, hl, hb⟩
    · exact absurd hR h
    · refine ⟨g, cap, he, ?_, ?_, toks_of ho hl, hg, hb⟩ <;>
      · obtain ⟨_, ⟨h, _⟩ | ⟨g', cap', cur, hv, _, _, h1, h2, _⟩⟩ := ho
        · cases h
        · cases hv; assumption
/-- What whole leaves, of a term. -/
def WtR (w : World) (o : Out Tm) (e : Ending) (w' : World) : Prop :=
  (∃ t p c, o = .good t [] ∧ e = .returned (.tuple #[.agg #[.string t.nm, .slice p t.args.length c], .int .i64 0, .int .i64 0]) ∧ SlIn (fun b => w.heap.size ≤ b ∧ b < w'.heap.size) w' t.args (.slice p t.args.length c) ∧ t.nm.size ≤ maxLen ∧ Below w.heap.size w w') ∨
  (∃ a er, o = .bad a er ∧ e = .returned (.tuple #[.agg #[.string ⟨#[]⟩, .slice none 0 0], .int .i64 a, .int .i64 er]) ∧ Below w.heap.size w w')
end ParX
end Go.Proofs.YtfdpelokiljigaaDoor
/- whole for the lists (rules, terms); by genparx.py. Condition: the reserved words lie as laid. -/
namespace Go.Proofs.YtfdpelokiljigaaDoor
open Go Go.RowKit
namespace ParX2
open Kit LexM TermM TermI TermU LexE LexF LexG LexP ParM ParA ParB ParC ParD ParK ParE ParF ParG ParH ParI ParW ParV ParX
/-- What whole leaves, of a list. -/
def WdsR (w : World) (o : Out (List Rl)) (e : Ending) (w' : World) : Prop :=
  (∃ l p c, o = .good l [] ∧ e = .returned (.tuple #[.slice p l.length c, .int .i64 0, .int .i64 0]) ∧ RIn (fun b => w.heap.size ≤ b ∧ b < w'.heap.size) w' l (.slice p l.length c) ∧ Below w.heap.size w w') ∨
  (∃ a er, o = .bad a er ∧ e = .returned (.tuple #[.slice none 0 0, .int .i64 a, .int .i64 er]) ∧ Below w.heap.size w w')
set_option maxRecDepth 100000 in
set_option maxHeartbeats 6400000 in
theorem whole_ds (s : ByteArray) (w : World) (hw : Wd w) (hs : s.size ≤ 140737488355328) :
    Calls Tryd.prog 40 #[.string s, .func (.func 41) #[] #[]] w (WdsR w (wholeF (descF 129 []) s.data.toList)) := by
  have hmf : ∀ (fn : Fn) (first cap : Array Value) (w : World), (Instr.makeFunc fn first cap).run Tryd.prog w = .ok (.func fn first cap) w := fun _ _ _ _ => rfl
  obtain ⟨W1, hW1⟩ : ∃ W1, W1 = (w.alloc (.cells #[.int .i64 0] 3)).alloc (.cells #[.int .i64 0] 38) := ⟨_, rfl⟩
  have G1 : Below w.heap.size w W1 := by rw [hW1]; exact (below_alloc w _).alloc (by simp) _
  have HA : Has W1 w.heap.size #[.int .i64 0] := by rw [hW1]; exact (Has.new w _ _).alloc _
  have HE : Has W1 (w.heap.size + 1) #[.int .i64 0] := by rw [hW1]; exact Has.new1 w _ _ _
  have hz : W1.heap.size = w.heap.size + 2 := by rw [hW1]; simp
  have HL := lex_any s W1 (hw.below G1 hw.1) hs
  have LE := fun h => lexR_end (l := s.data.toList) h
  by_cases h0 : (lexR s.data.toList).2.2 = 0
  · have HO : Hid (wholeF (descF 129 []) s.data.toList = (descF 129 [] ((lexR s.data.toList).1.map gt)).then fun x r => if (hd r).1 = 0 then .good x [] else .bad (hd r).2.2 1) := Lib.hid (by unfold wholeF; rw [if_pos h0])
    have HL2 := Lib.hid (lexed_ok2 HL h0)
    obtain ⟨e1, e2, e3⟩ := LE h0
    generalize wholeF (descF 129 []) s.data.toList = O at *
    have hlen : (lexR s.data.toList).1.length = ((lexR s.data.toList).1.map gt).length := by simp
    have HLN := Lib.hid hlen
    generalize lexR s.data.toList = R at *
    have L1 := Lib.hid e1
    have L2 := Lib.hid e2
    have L3 := Lib.hid e3
    have GA := Lib.hid HA
    have GE := Lib.hid HE
    have GG := Lib.hid G1
    have HZ := Lib.hid hz
    clear HL LE h0 HA HE G1 hz e1 e2 e3 hlen
    unfold WdsR
    go_enter_defers Tryd.func40, Tryd.ntmps40
    go_upto_region 1 with fail
    rw [← hW1]
    clear hW1
    go_wp2_with fail
    refine HL2.out.mono ?_
    rintro e w2 ⟨g, cap, rfl, k1, k2, k3, k4, k⟩
    have A2 := Lib.hid (GA.out.step0 k)
    have E2 := Lib.hid (GE.out.step0 k)
    have G2 := Lib.hid (next0 GG.out k)
    have hgz : w.heap.size + 2 ≤ g := by have := HZ.out; omega
    have T2 := Lib.hid k3
    clear k HL2 GA GE GG k3 k4
    have y1 := A2.out.cell 0
    have y2 := A2.out.free 0
    have y3 := A2.out.lt
    have z1 := E2.out.cell 0
    have z2 := E2.out.free 0
    have z3 := E2.out.lt
    simp only [List.getElem?_toArray, List.getElem?_cons_zero] at y1 z1
    go_upto_region 2 with fail
    obtain ⟨W5, hW5⟩ : ∃ W5, W5 = (w2.setCell ⟨w.heap.size, 0, none⟩ (.int .i64 0)).setCell ⟨w.heap.size + 1, 0, none⟩ (.int .i64 0) := ⟨_, rfl⟩
    have A5 : Has W5 w.heap.size #[.int .i64 0] := by rw [hW5]; exact (A2.out.set 0 _).far (by show w.heap.size ≠ w.heap.size + 1; omega) _
    have E5 : Has W5 (w.heap.size + 1) #[.int .i64 0] := by rw [hW5]; exact (E2.out.far (by show w.heap.size + 1 ≠ w.heap.size; omega) _).set 0 _
    have G5 := Lib.hid (show Below w.heap.size w W5 by rw [hW5]; exact (G2.out.setCell (by show w.heap.size ≤ w.heap.size; omega) _).setCell (by show w.heap.size ≤ w.heap.size + 1; omega) _)
    have T5 : Toks W5 g 0 (R.1.map gt) := by
      have hc : ∀ off, W5.cell? ⟨g, off, none⟩ = w2.cell? ⟨g, off, none⟩ := fun off => by
        rw [hW5]
        exact (cell_set (by show g ≠ w.heap.size + 1; omega) _).trans (cell_set (by show g ≠ w.heap.size; omega) _)
      refine ⟨by rw [hW5, set_size, set_size]; exact T2.out.1, fun i t hi => ?_⟩
      rw [hc, hc, hc]
      exact T2.out.2 i t hi
    rw [← hW5]
    clear hW5 A2 E2 G2 y1 y2 y3 z1 z2 z3 T2
    have z1 := E5.cell 0
    have z2 := E5.free 0
    have z3 := E5.lt
    simp only [List.getElem?_toArray, List.getElem?_cons_zero] at z1
    have A6 := Lib.hid A5
    have E6 := Lib.hid E5
    have hgl := T5.1
    have T6 := Lib.hid T5
    clear A5 E5 T5
    go_upto_region 6 with fail
    rw [HLN.out]
    rw [HLN.out] at k1
    clear HLN
    generalize R.1.map gt = ts at *
    clear R
    obtain ⟨W6, hW6⟩ : ∃ W6, W6 = W5.alloc (.cells #[.slice (some ⟨g, 0, none⟩) ts.length cap] 84) := ⟨_, rfl⟩
    have B6 : Below W5.heap.size W5 W6 := by rw [hW6]; exact below_alloc W5 _
    have R6 : Rd W6 W5.heap.size ts := ⟨L1.out, L2.out, g, 0, cap, by rw [hW6]; exact Has.new _ _ _, k1, k2, hgl, T6.out.below B6 hgl⟩
    have A7 := Lib.hid (A6.out.step0 B6)
    have E7 := Lib.hid (E6.out.step0 B6)
    have G7 := Lib.hid (next0 G5.out B6)
    have hz6 : W5.heap.size < W6.heap.size := by rw [hW6]; simp
    have hr : w.heap.size + 2 ≤ W5.heap.size := by omega
    rw [← hW6]
    have HT := Lib.hid (desc_any _ W6 ts R6)
    clear hW6 B6 A6 E6 G5 z1 z2 z3 L1 L2 L3 T6 k1 k2 R6
    generalize W5.heap.size = r at *
    generalize descF 129 [] ts = OT at *
    unfold DsR at HT
    go_wp2_with fail
    refine HT.out.mono ?_
    rintro e w7 (⟨l', ts7, p, c, hO, rfl, hs, hR, hC⟩ | ⟨a, er, hO, rfl, hC⟩)
    case inr =>
      have HO3 : Hid (O = .bad a er) := Lib.hid (by rw [HO.out, hO]; rfl)
      have A8 := hC.has A7.out (by omega)
      have E8 := hC.has E7.out (by omega)
      have G8 : Below w.heap.size w w7 := G7.out.trans (hC.toBelow (by omega) (by omega))
      go_wp2_with fail
      refine leaves_cons (f := 59) (args := #[.pointer (some ⟨w.heap.size, 0, none⟩), .pointer (some ⟨w.heap.size + 1, 0, none⟩)]) (by simp) (by simp [go_sem]) ?_
      refine (catch_ds w.heap.size (w.heap.size + 1) _ _ (a) (er) w7 (by omega) A8 E8).mono ?_
      rintro e u' wz ⟨rfl, rfl, A9, E9, k9⟩
      have G9 := Lib.hid (G8.trans (k9.toBelow (B := w.heap.size) (by omega) (by omega) G8.size))
      have q1 := A9.cell 0
      have r1 := E9.cell 0
      simp only [List.getElem?_toArray, List.getElem?_cons_zero] at q1 r1
      show ∃ v, (results _ _).run _ wz = .ok v wz ∧ _
      exact ⟨.tuple #[.slice none 0 0, .int .i64 (a), .int .i64 (er)], by simp [results, Tryd.results40, go_sem, q1, r1], Or.inr ⟨_, _, HO3.out, rfl, G9.out⟩⟩
    case inl =>
      have A10 := hC.has A7.out (by omega)
      have E10 := hC.has E7.out (by omega)
      have G10 : Below w.heap.size w w7 := G7.out.trans (hC.toBelow (by omega) (by omega))
      have HN := Lib.hid (next_any w7 r ts7 hR)
      have HR8 := Lib.hid hR
      have hq : r < w7.heap.size := hR.lt
      have S10 := Lib.hid hs
      have HO3 : Hid (O = if (hd ts7).1 = 0 then .good l' [] else .bad (hd ts7).2.2 1) := Lib.hid (by rw [HO.out, hO]; rfl)
      clear HT HO hO hs hR hC A7 E7 G7
      have F0 := fld0
      go_wp2_with fail
      refine HN.out.mono ?_
      rintro e w9 ⟨rfl, k9⟩
      have A11 := A10.step0 k9
      have E11 := E10.step0 k9
      have G11 := next0 G10 k9
      have HR9 := Lib.hid (HR8.out.below k9)
      have S11 := Lib.hid (S10.out.keep (w' := w9) (fun b o hb => k9.cell (p := ⟨b, o, none⟩) (by show b < w7.heap.size; exact hb.2)))
      have hz9 := k9.size
      clear k9 A10 E10 G10 HR8 S10 HN
      by_cases ht : (hd ts7).1 = 0
      · have HO4 : Hid (O = .good l' []) := Lib.hid (by rw [HO3.out, if_pos ht])
        have hb : ((hd ts7).1 != 0) = false := by simpa using ht
        have HF := Lib.hid (fail_no w9 r 1)
        clear HO3 ht HR9
        generalize hd ts7 = tk at *
        have AA := Lib.hid A11
        have EE := Lib.hid E11
        have GG := Lib.hid G11
        clear A11 E11 G11
        go_wp2_with fail
        refine HF.out.mono ?_
        rintro e wf ⟨rfl, rfl⟩
        have y1 := AA.out.cell 0
        have y2 := AA.out.free 0
        have y3 := AA.out.lt
        have z1 := EE.out.cell 0
        have z2 := EE.out.free 0
        have z3 := EE.out.lt
        simp only [List.getElem?_toArray, List.getElem?_cons_zero] at y1 z1
        go_wp2_with fail
        obtain ⟨W13, hW13⟩ : ∃ W13, W13 = (w9.setCell ⟨w.heap.size, 0, none⟩ (.int .i64 0)).setCell ⟨w.heap.size + 1, 0, none⟩ (.int .i64 0) := ⟨_, rfl⟩
        have A13 : Has W13 w.heap.size #[.int .i64 0] := by rw [hW13]; exact (AA.out.set 0 _).far (by show w.heap.size ≠ w.heap.size + 1; omega) _
        have E13 : Has W13 (w.heap.size + 1) #[.int .i64 0] := by rw [hW13]; exact (EE.out.far (by show w.heap.size + 1 ≠ w.heap.size; omega) _).set 0 _
        have G13 : Below w.heap.size w W13 := by rw [hW13]; exact (GG.out.setCell (by show w.heap.size ≤ w.heap.size; omega) _).setCell (by show w.heap.size ≤ w.heap.size + 1; omega) _
        have hz13 : W13.heap.size = w9.heap.size := by rw [hW13, set_size, set_size]
        have S13 := S11.out.keep (w' := W13) (fun b o hb => by
          have h1 : W6.heap.size ≤ b := hb.1
          rw [hW13]
          exact (cell_set (by show b ≠ w.heap.size + 1; omega) _).trans (cell_set (by show b ≠ w.heap.size; omega) _))
        rw [← hW13]
        clear hW13 y1 y2 y3 z1 z2 z3
        refine leaves_cons (f := 59) (args := #[.pointer (some ⟨w.heap.size, 0, none⟩), .pointer (some ⟨w.heap.size + 1, 0, none⟩)]) (by simp) (by simp [go_sem]) ?_
        refine (idle_ds w.heap.size (w.heap.size + 1) W13).mono ?_
        rintro e u' wz ⟨rfl, rfl, k9⟩
        have q1 := (A13.step0 k9).cell 0
        have r1 := (E13.step0 k9).cell 0
        simp only [List.getElem?_toArray, List.getElem?_cons_zero] at q1 r1
        show ∃ v, (results _ _).run _ wz = .ok v wz ∧ _
        refine ⟨.tuple #[.slice p l'.length c, .int .i64 0, .int .i64 0], by simp [results, Tryd.results40, go_sem, q1, r1], Or.inl ⟨l', p, c, HO4.out, rfl, ?_, next0 G13 k9⟩⟩
        refine (S13.keep (w' := wz) (fun b o hb => k9.cell (p := ⟨b, o, none⟩) (by show b < W13.heap.size; have : b < w7.heap.size := hb.2; omega))).wide (fun b hb => ?_)
        have h1 : W6.heap.size ≤ b := hb.1
        have h2 : b < w7.heap.size := hb.2
        have h3 := k9.size
        exact ⟨by omega, by omega⟩
      · have HO4 : Hid (O = .bad (hd ts7).2.2 1) := Lib.hid (by rw [HO3.out, if_neg ht])
        have hb : ((hd ts7).1 != 0) = true := by simpa using ht
        have HF := Lib.hid (fail_yes w9 r 1 ts7 HR9.out)
        clear HO3 ht HR9
        generalize hd ts7 = tk at *
        have AA := Lib.hid A11
        have EE := Lib.hid E11
        have GG := Lib.hid G11
        clear A11 E11 G11
        go_wp2_with fail
        refine HF.out.mono ?_
        rintro e wf ⟨rfl, kf⟩
        have A12 := AA.out.step0 kf
        have E12 := EE.out.step0 kf
        have G12 := next0 GG.out kf
        clear kf HF
        go_wp2_with fail
        refine leaves_cons (f := 59) (args := #[.pointer (some ⟨w.heap.size, 0, none⟩), .pointer (some ⟨w.heap.size + 1, 0, none⟩)]) (by simp) (by simp [go_sem]) ?_
        refine (catch_ds w.heap.size (w.heap.size + 1) _ _ (tk.2.2) (1) wf (by omega) A12 E12).mono ?_
        rintro e u' wz ⟨rfl, rfl, A9, E9, k9⟩
        have G9 := Lib.hid (G12.trans (k9.toBelow (B := w.heap.size) (by omega) (by omega) G12.size))
        have q1 := A9.cell 0
        have r1 := E9.cell 0
        simp only [List.getElem?_toArray, List.getElem?_cons_zero] at q1 r1
        show ∃ v, (results _ _).run _ wz = .ok v wz ∧ _
        exact ⟨.tuple #[.slice none 0 0, .int .i64 (tk.2.2), .int .i64 (1)], by simp [results, Tryd.results40, go_sem, q1, r1], Or.inr ⟨_, _, HO4.out, rfl, G9.out⟩⟩
  · have HO : Hid (wholeF (descF 129 []) s.data.toList = .bad (lexR s.data.toList).2.1 (lexR s.data.toList).2.2) := Lib.hid (by unfold wholeF; rw [if_neg h0])
    have HL2 := Lib.hid (lexed_err HL h0)
    generalize wholeF (descF 129 []) s.data.toList = O at *
    have hb0 : ((lexR s.data.toList).2.2 != 0) = true := by simpa using h0
    generalize lexR s.data.toList = R at *
    have GA := Lib.hid HA
    have GE := Lib.hid HE
    have GG := Lib.hid G1
    have HZ := Lib.hid hz
    clear HL LE h0 HA HE G1 hz
    unfold WdsR
    go_enter_defers Tryd.func40, Tryd.ntmps40
    go_upto_region 1 with fail
    rw [← hW1]
    clear hW1
    go_wp2_with fail
    refine HL2.out.mono ?_
    rintro e w2 ⟨rfl, k⟩
    have A2 := Lib.hid (GA.out.step0 k)
    have E2 := Lib.hid (GE.out.step0 k)
    have G2 := Lib.hid (next0 GG.out k)
    clear k HL2 GA GE GG
    have y1 := A2.out.cell 0
    have y2 := A2.out.free 0
    have y3 := A2.out.lt
    have z1 := E2.out.cell 0
    have z2 := E2.out.free 0
    have z3 := E2.out.lt
    simp only [List.getElem?_toArray, List.getElem?_cons_zero] at y1 z1
    go_upto_region 2 with fail
    obtain ⟨W5, hW5⟩ : ∃ W5, W5 = (w2.setCell ⟨w.heap.size, 0, none⟩ (.int .i64 R.2.1)).setCell ⟨w.heap.size + 1, 0, none⟩ (.int .i64 R.2.2) := ⟨_, rfl⟩
    have A5 : Has W5 w.heap.size #[.int .i64 R.2.1] := by rw [hW5]; exact (A2.out.set 0 _).far (by show w.heap.size ≠ w.heap.size + 1; omega) _
    have E5 : Has W5 (w.heap.size + 1) #[.int .i64 R.2.2] := by rw [hW5]; exact (E2.out.far (by show w.heap.size + 1 ≠ w.heap.size; omega) _).set 0 _
    have G5 := Lib.hid (show Below w.heap.size w W5 by rw [hW5]; exact (G2.out.setCell (by show w.heap.size ≤ w.heap.size; omega) _).setCell (by show w.heap.size ≤ w.heap.size + 1; omega) _)
    rw [← hW5]
    clear hW5 A2 E2 G2 y1 y2 y3 z1 z2 z3
    have y1 := A5.cell 0
    have y2 := A5.free 0
    have y3 := A5.lt
    have z1 := E5.cell 0
    have z2 := E5.free 0
    have z3 := E5.lt
    simp only [List.getElem?_toArray, List.getElem?_cons_zero] at y1 z1
    have A6 := Lib.hid A5
    have E6 := Lib.hid E5
    clear A5 E5
    go_upto_region 3 with fail
    go_region
    go_wp2_with fail
    obtain ⟨W9, hW9⟩ : ∃ W9, W9 = ((W5.setCell ⟨w.heap.size, 0, none⟩ (.int .i64 R.2.1)).setCell ⟨w.heap.size + 1, 0, none⟩ (.int .i64 R.2.2)).drew := ⟨_, rfl⟩
    have A9 : Has W9 w.heap.size #[.int .i64 R.2.1] := by rw [hW9]; exact ((A6.out.set 0 _).far (by show w.heap.size ≠ w.heap.size + 1; omega) _).drew
    have E9 : Has W9 (w.heap.size + 1) #[.int .i64 R.2.2] := by rw [hW9]; exact ((E6.out.far (by show w.heap.size + 1 ≠ w.heap.size; omega) _).set 0 _).drew
    have G9 := Lib.hid (show Below w.heap.size w W9 by rw [hW9]; exact ((G5.out.setCell (by show w.heap.size ≤ w.heap.size; omega) _).setCell (by show w.heap.size ≤ w.heap.size + 1; omega) _).drew)
    rw [← hW9]
    clear hW9
    have q1 := A9.cell 0
    have r1 := E9.cell 0
    simp only [List.getElem?_toArray, List.getElem?_cons_zero] at q1 r1
    show ∃ v, (results _ _).run _ W9 = .ok v W9 ∧ _
    exact ⟨.tuple #[.slice none 0 0, .int .i64 R.2.1, .int .i64 R.2.2], by simp [results, Tryd.results40, go_sem, q1, r1], Or.inr ⟨_, _, HO.out, rfl, G9.out⟩⟩
/-- What whole leaves, of a list. -/
def WtsR (w : World) (o : Out (List Tm)) (e : Ending) (w' : World) : Prop :=
  (∃ l p c, o = .good l [] ∧ e = .returned (.tuple #[.slice p l.length c, .int .i64 0, .int .i64 0]) ∧ SlIn (fun b => w.heap.size ≤ b ∧ b < w'.heap.size) w' l (.slice p l.length c) ∧ Below w.heap.size w w') ∨
  (∃ a er, o = .bad a er ∧ e = .returned (.tuple #[.slice none 0 0, .int .i64 a, .int .i64 er]) ∧ Below w.heap.size w w')
end ParX2
end Go.Proofs.YtfdpelokiljigaaDoor
