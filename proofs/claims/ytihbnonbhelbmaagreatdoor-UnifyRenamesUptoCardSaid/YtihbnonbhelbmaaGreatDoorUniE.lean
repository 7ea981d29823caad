/- Lookup of the code, and the function that replaces a leaf as a substitution does. Conditions: the substitution's names ascend, its terms have at most a million parts. Made by genunid.py. -/
import Derived.Test.YtihbnonbhelbmaaGreatDoorUniC
import Derived.Test.YtihbnonbhelbmaaGreatDoorUniD
namespace Go.Proofs.YtihbnonbhelbmaaGreatDoor
open Go Go.RowKit
namespace UniE
open LexM TermM TermI Kit TermN TermU UniK UniM UniA UniC UniD
theorem eq_lex {a b : ByteArray} : eqB a b = true ↔ lexB a.data.toList b.data.toList = 0 := by
  unfold eqB
  rw [beq_iff_eq, lex_zero]
theorem look_none {s : List Bd} {u : ByteArray} (h : ∀ y ∈ s, lexB y.1.data.toList u.data.toList ≠ 0) : lookS s u = none := by
  unfold lookS
  rw [List.find?_eq_none.2 (fun y hy => by
    intro e
    exact h y hy (eq_lex.1 e))]
  rfl
theorem look_found {s : List Bd} {u : ByteArray} (hS : Srt s) {i : Nat} {y : Bd} (hy : s[i]? = some y) (h0 : lexB y.1.data.toList u.data.toList = 0) : lookS s u = some y.2 := by
  unfold lookS
  cases hf : s.find? (fun b => eqB b.1 u) with
  | none =>
    have := List.find?_eq_none.1 hf y (List.mem_of_getElem? hy)
    exact absurd (eq_lex.2 h0) this
  | some x =>
    have h1 : lexB x.1.data.toList u.data.toList = 0 := eq_lex.1 (by simpa using List.find?_some (p := fun b : Bd => eqB b.1 u) hf)
    obtain ⟨j, hj⟩ := List.mem_iff_getElem?.1 (List.mem_of_find?_eq_some hf)
    have e1 := (lex_zero _ _).1 h0
    have e2 := (lex_zero _ _).1 h1
    have hij : i = j := by
      rcases Nat.lt_trichotomy i j with h | h | h
      · have := hS i j y x h hy hj
        rw [e1, e2, (lex_zero _ _).2 rfl] at this
        omega
      · exact h
      · have := hS j i x y h hj hy
        rw [e1, e2, (lex_zero _ _).2 rfl] at this
        omega
    subst hij
    rw [hy] at hj
    cases hj
    rfl
theorem look_not {s : List Bd} {u : ByteArray} (hS : Srt s) {i : Nat} (h1 : ∀ (j : Nat) (y : Bd), j < i → s[j]? = some y → lexB y.1.data.toList u.data.toList < 0) (h2 : ∀ (j : Nat) (y : Bd), i ≤ j → s[j]? = some y → 0 ≤ lexB y.1.data.toList u.data.toList) (h3 : ¬ ∃ y, s[i]? = some y ∧ lexB y.1.data.toList u.data.toList = 0) : lookS s u = none := by
  refine look_none fun y hy h0 => ?_
  obtain ⟨j, hj⟩ := List.mem_iff_getElem?.1 hy
  rcases Nat.lt_trichotomy j i with h | h | h
  · have := h1 j y h hj; omega
  · subst h; exact h3 ⟨y, hj, h0⟩
  · have hl := (List.getElem?_eq_some_iff.1 hj).1
    obtain ⟨x, hx⟩ : ∃ x, s[i]? = some x := ⟨s[i]'(by omega), by simp⟩
    have a1 := hS i j x y h hx hj
    have a2 := h2 i x (Nat.le_refl _) hx
    have a3 := (tri_lex x.1.data.toList y.1.data.toList u.data.toList).2.1 a1 (by omega)
    omega
/-- What Lookup leaves. -/
def LkR (o : Option Tm) (w : World) (e : Ending) (w' : World) : Prop :=
  ∃ (u : Tm) (p : Option Addr) (c : Nat) (f : Bool), e = .returned (.tuple #[.agg #[.string u.nm, .slice p u.args.length c], .bool f]) ∧ ((o = some u ∧ f = true) ∨ (o = none ∧ u = .mk ⟨#[]⟩ [] ∧ f = false)) ∧
    SlIn (fun b => w.heap.size ≤ b ∧ b < w'.heap.size) w' u.args (.slice p u.args.length c) ∧ u.nm.size ≤ maxLen ∧ Below w.heap.size w w'
/-- The sizes that a substitution is read under. -/
def Sz (s : List Bd) : Prop := s.length ≤ 3000000 ∧ ∀ y ∈ s, sizeT y.2 ≤ 1000000
set_option maxRecDepth 100000 in
set_option maxHeartbeats 3200000 in
theorem lookup_any (s : List Bd) (v : ByteArray) (hS : Srt s) (hz : Sz s) (B : Nat) (w : World) (sv : Value) (hB : B ≤ w.heap.size) (h : SIn (· < B) w s sv) :
    Calls Tryz.prog 16 #[sv, .string v] w (LkR (lookS s v) w) := by
  obtain ⟨W1, hW1⟩ : ∃ W1, W1 = w.alloc (.cells #[.string ⟨#[]⟩, .slice none 0 0] 27) := ⟨_, rfl⟩
  have G1 : Gr w W1 := by rw [hW1]; exact Gr.alloc _ _
  have H1 : Hid (Has W1 w.heap.size #[.string ⟨#[]⟩, .slice none 0 0]) := Lib.hid (by rw [hW1]; exact Has.new _ _ _)
  have hz1 : w.heap.size + 1 ≤ W1.heap.size := by rw [hW1]; simp
  have CF := Lib.hid (find_any s v hS hz.1 B W1 sv (Nat.le_trans hB G1.size) (h.gr G1 hB))
  obtain ⟨p, c, rfl, hc, hm, hR⟩ := SIn.row h
  have HR := Lib.hid hR
  have HB := Lib.hid hB
  have HS := Lib.hid hS
  have SZ := Lib.hid hz.2
  have GG := Lib.hid G1
  have CL := Lib.hid (fun (t : Tm) (w' : World) (v : Value) (hw : B ≤ w'.heap.size) (hs : SlIn (· < B) w' t.args v) (hn : t.nm.size ≤ maxLen) (hz : sizeT t ≤ 1000000) => clone_any t B w' v hw hs hn hz)
  generalize hln : s.length = n at *
  have HN := Lib.hid hln
  clear h hR hB hS hz hc hm G1 hln
  unfold FoundS at CF
  rw [HN.out] at CF
  unfold LkR
  go_enter Tryz.func16, Tryz.ntmps16
  go_upto_region 1 with fail
  rw [← hW1]
  clear hW1
  go_wp2_with fail
  refine CF.out.mono ?_
  rintro e w2 ⟨⟨i, f, h1, rfl, h2, h3, h4⟩, g⟩
  have G2 := Lib.hid (GG.out.trans g)
  have H2 := Lib.hid (H1.out.step0 g.1)
  have hz2 : w.heap.size + 1 ≤ w2.heap.size := Nat.le_trans hz1 g.size
  cases f
  · have NO := Lib.hid (look_not HS.out h2 h3 (fun hh => by have := h4.2 hh; simp at this))
    obtain ⟨y1, y2, y3, y4, y5⟩ := H2.out.two
    clear h2 h3 h4 g CF CL HR
    go_wp2_with fail
    refine bodyPost_ret (v := .tuple #[.agg #[.string ⟨#[]⟩, .slice none 0 0], .bool false]) ?_ rfl ?_
    · have r1 := H2.out.put0 (.string ⟨#[]⟩) (.slice none 0 0)
      have r2 := H2.out.put1 (.string ⟨#[]⟩) (.slice none 0 0)
      simp [results, Tryz.results16, go_sem, r1, r2]
    · exact ⟨.mk ⟨#[]⟩ [], none, 0, false, rfl, Or.inr ⟨NO.out, rfl, rfl⟩, SlIn.none _ _, by show (0 : Nat) ≤ maxLen; exact Nat.zero_le _, ((G2.out.1.setCell (by simp) _).setCell (by simp) _)⟩
  · obtain ⟨y, hy, h0⟩ := h4.1 rfl
    have hi : i < n := by have := (List.getElem?_eq_some_iff.1 hy).1; have := HN.out; omega
    have FO := Lib.hid (look_found HS.out hy h0)
    obtain ⟨t, b, o, q, d, ht, rfl, hb, c1, c2, c3, hs, hts, htv⟩ := (RowS.gr HR.out G2.out HB.out) i (by rw [HN.out]; exact hi)
    rw [hy] at ht
    cases ht
    have C2 := Lib.hid (CL.out y.2 w2 _ (Nat.le_trans HB.out G2.out.size) hs hts (SZ.out y (List.mem_of_getElem? hy)))
    clear h2 h3 h4 g CF CL HR hs hts htv h0 hy
    obtain ⟨u, hu⟩ : ∃ u, u = y.2 := ⟨_, rfl⟩
    rw [← hu] at FO C2 c2 c3
    unfold RepR at C2
    clear hu c1
    go_wp2_with fail
    refine C2.out.mono ?_
    rintro e w3 ⟨q2, d2, rfl, hS, hnu, hb⟩
    have B3 := Lib.hid (next0 G2.out.1 hb)
    have hge := hb.size
    obtain ⟨y1, y2, y3, y4, y5⟩ := (H2.out.step0 hb).two
    have r1 := (H2.out.step0 hb).put0 (.string u.nm) (.slice q2 u.args.length d2)
    have r2 := (H2.out.step0 hb).put1 (.string u.nm) (.slice q2 u.args.length d2)
    have S4 := Lib.hid (((hS.weaken (ok' := fun b => w2.heap.size ≤ b ∧ b < w3.heap.size) (fun b hb => hb)).frame (w' := (w3.setCell ⟨w.heap.size, 0, none⟩ (.string u.nm)).setCell ⟨w.heap.size, 1, none⟩ (.slice q2 u.args.length d2)) (fun b o hb => by
      rw [cell_far (by show b ≠ w.heap.size; omega), cell_far (by show b ≠ w.heap.size; omega)])))
    have D4 := Lib.hid ((B3.out.setCell (p := ⟨w.heap.size, 0, none⟩) (by simp) (.string u.nm)).setCell (p := ⟨w.heap.size, 1, none⟩) (by simp) (.slice q2 u.args.length d2))
    have HNU := Lib.hid hnu
    clear hS hb B3 hnu C2 c2 c3
    go_wp2_with fail
    refine bodyPost_ret (v := .tuple #[.agg #[.string u.nm, .slice q2 u.args.length d2], .bool true]) (by simp [results, Tryz.results16, go_sem, r1, r2]) rfl ?_
    exact ⟨u, q2, d2, true, rfl, Or.inl ⟨FO.out, rfl⟩, S4.out.weaken (fun b hb => ⟨by omega, by simpa [World.setCell] using hb.2⟩), HNU.out, D4.out⟩
/-- What stands for a leaf under a substitution. -/
def leafS (s : List Bd) (n : ByteArray) : Tm := (lookS s n).getD (.mk n [])
theorem rep_app (s : List Bd) (t : Tm) : repT (leafS s) t = appT s t := by
  induction t using Tm.ind with
  | h n l ih =>
    rw [repT, appT]
    split
    · rfl
    · rw [repL_map, appL_map]
      congr 1
      exact List.map_congr_left ih
set_option maxRecDepth 100000 in
set_option maxHeartbeats 3200000 in
theorem replacer_any (s : List Bd) (n : ByteArray) (hn : n.size ≤ maxLen) (hS : Srt s) (hz : Sz s) (B g : Nat) (w : World) (sv : Value) (hB : B ≤ w.heap.size) (h : SIn (· < B) w s sv) (hg : Has w g #[sv]) :
    Calls Tryz.prog 79 #[.string n, .pointer (some ⟨g, 0, none⟩)] w (RepR (leafS s n) w) := by
  obtain ⟨W1, hW1⟩ : ∃ W1, W1 = w.alloc (.cells #[.string ⟨#[]⟩, .slice none 0 0] 27) := ⟨_, rfl⟩
  have G1 : Gr w W1 := by rw [hW1]; exact Gr.alloc _ _
  have H1 : Hid (Has W1 w.heap.size #[.string ⟨#[]⟩, .slice none 0 0]) := Lib.hid (by rw [hW1]; exact Has.new _ _ _)
  have hz1 : w.heap.size + 1 ≤ W1.heap.size := by rw [hW1]; simp
  have c0 : W1.cell? ⟨g, 0, none⟩ = some sv := (hg.step0 G1.1).cell 0
  have CF := Lib.hid (lookup_any s n hS hz B W1 sv (Nat.le_trans hB G1.size) (h.gr G1 hB))
  obtain ⟨p, c, rfl⟩ := h.form
  have GG := Lib.hid G1
  have LF : Hid (leafS s n = (lookS s n).getD (.mk n [])) := Lib.hid rfl
  have CL : Hid (∀ w', Calls Tryz.prog 57 #[.string n] w' fun e w'' => ∃ (q : Option Addr) (d : Nat), e = .returned (.agg #[.string n, .slice q 0 d]) ∧ SlIn (fun b => w'.heap.size ≤ b ∧ b < w''.heap.size) w'' [] (.slice q 0 d) ∧ Below w'.heap.size w' w'') := Lib.hid (fun w' => (leaf_any n w' hn).mono fun _ _ ⟨q, d, h1, h2, _, h4⟩ => ⟨q, d, h1, h2, h4⟩)
  have HN := Lib.hid hn
  generalize s.length = m at *
  clear h hB hS hz G1 hg
  generalize lookS s n = o at *
  generalize leafS s n = r at *
  unfold LkR at CF
  unfold RepR
  go_enter Tryz.func79, Tryz.ntmps79
  go_upto_region 1 with fail
  rw [← hW1]
  clear hW1
  go_wp2_with fail
  refine CF.out.mono ?_
  rintro e w2 ⟨u, q, d, f, rfl, hf, hS2, hnu, hb2⟩
  have B2 := Lib.hid (next0 GG.out.1 hb2)
  have H2 := Lib.hid (H1.out.step0 hb2)
  have hz2 : w.heap.size + 1 ≤ w2.heap.size := Nat.le_trans hz1 hb2.size
  have S2 := Lib.hid hS2
  have NU := Lib.hid hnu
  have FF := Lib.hid hf
  clear hf hS2 hnu hb2 CF c0
  go_upto_region 2 with fail
  obtain ⟨W3, hW3⟩ : ∃ W3, W3 = w2.alloc (.cells #[.string u.nm, .slice q u.args.length d] 27) := ⟨_, rfl⟩
  have k3 : Below w2.heap.size w2 W3 := by rw [hW3]; exact below_alloc _ _
  have hz3 : W3.heap.size = w2.heap.size + 1 := by rw [hW3]; simp
  obtain ⟨x1, x2, _⟩ := (show Has W3 w2.heap.size #[.string u.nm, .slice q u.args.length d] by rw [hW3]; exact Has.new _ _ _).two
  rw [← hW3]
  clear hW3
  have B3 := Lib.hid (next0 B2.out k3)
  have H3 := Lib.hid (H2.out.step0 k3)
  have S3 := Lib.hid ((S2.out.frame fun b o hb => k3.cell (p := ⟨b, o, none⟩) hb.2).weaken (ok' := fun b => W1.heap.size ≤ b ∧ b < W3.heap.size) fun b hb => ⟨hb.1, Nat.lt_of_lt_of_le hb.2 k3.size⟩)
  obtain ⟨y1, y2, y3, y4, y5⟩ := H3.out.two
  clear k3 S2 B2 H2 H1 GG
  cases f
  · have RF : Hid (r = .mk n []) := Lib.hid (by
      rcases FF.out with ⟨_, h⟩ | ⟨h1, h2, _⟩
      · cases h
      · rw [LF.out, h1]; rfl)
    go_wp2_with fail
    refine (CL.out W3).mono ?_
    rintro e w4 ⟨q4, d4, rfl, hS4, hb4⟩
    have B4 := Lib.hid (next0 B3.out hb4)
    have hz4 := hb4.size
    obtain ⟨z1, z2, z3, z4, z5⟩ := (H3.out.step0 hb4).two
    have r1 := (H3.out.step0 hb4).put0 (.string n) (.slice q4 0 d4)
    have r2 := (H3.out.step0 hb4).put1 (.string n) (.slice q4 0 d4)
    have S5 := Lib.hid (((hS4.weaken (ok' := fun b => W3.heap.size ≤ b ∧ b < w4.heap.size) (fun b hb => hb)).frame (w' := (w4.setCell ⟨w.heap.size, 0, none⟩ (.string n)).setCell ⟨w.heap.size, 1, none⟩ (.slice q4 0 d4)) (fun b o hb => by
      rw [cell_far (by show b ≠ w.heap.size; omega), cell_far (by show b ≠ w.heap.size; omega)])))
    have D5 := Lib.hid ((B4.out.setCell (p := ⟨w.heap.size, 0, none⟩) (by simp) (.string n)).setCell (p := ⟨w.heap.size, 1, none⟩) (by simp) (.slice q4 0 d4))
    have RR := Lib.hid RF.out
    clear hS4 hb4 B4 x1 x2 y1 y2 y3 y4 y5 CL S3 B3 RF LF FF
    go_wp2_with fail
    refine bodyPost_ret (v := .agg #[.string n, .slice q4 0 d4]) (by simp [results, Tryz.results79, go_sem, r1, r2]) rfl ?_
    rw [RR.out]
    exact ⟨q4, d4, rfl, S5.out.weaken (fun b hb => ⟨by omega, by simpa [World.setCell] using hb.2⟩), HN.out, D5.out⟩
  · have RF : Hid (r = u) := Lib.hid (by
      rcases FF.out with ⟨h1, _⟩ | ⟨_, _, h⟩
      · rw [LF.out, h1]; rfl
      · cases h)
    have r1 := H3.out.put0 (.string u.nm) (.slice q u.args.length d)
    have r2 := H3.out.put1 (.string u.nm) (.slice q u.args.length d)
    have S5 := Lib.hid (S3.out.frame (w' := (W3.setCell ⟨w.heap.size, 0, none⟩ (.string u.nm)).setCell ⟨w.heap.size, 1, none⟩ (.slice q u.args.length d)) (fun b o hb => by
      rw [cell_far (by show b ≠ w.heap.size; omega), cell_far (by show b ≠ w.heap.size; omega)]))
    have D5 := Lib.hid ((B3.out.setCell (p := ⟨w.heap.size, 0, none⟩) (by simp) (.string u.nm)).setCell (p := ⟨w.heap.size, 1, none⟩) (by simp) (.slice q u.args.length d))
    clear CL S3 B3 LF FF
    go_wp2_with fail
    refine bodyPost_ret (v := .agg #[.string u.nm, .slice q u.args.length d]) (by simp [results, Tryz.results79, go_sem, r1, r2]) rfl ?_
    rw [RF.out]
    exact ⟨q, d, rfl, S5.out.weaken (fun b hb => ⟨by omega, by simpa [World.setCell] using hb.2⟩), NU.out, D5.out⟩
end UniE
end Go.Proofs.YtihbnonbhelbmaaGreatDoor
