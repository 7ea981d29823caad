/- Texts laid together: NorM; NorA; NorH; NorP; NorQ. Their own heads stand before each. -/
import Derived.Test.YtdkpflojdnkbnaaGreatDoorHAE
import Derived.Test.YtdkpflojdnkbnaaGreatDoorHAD
import Derived.Test.YtdkpflojdnkbnaaGreatDoorHAJ
import Derived.Test.YtdkpflojdnkbnaaGreatDoorHAF
/- The order of rules as plain data. No conditions. -/
namespace Go.Proofs.YtdkpflojdnkbnaaGreatDoor
open Go
namespace NorM
open LexM TermM UniM UniK
def bI (b : Bool) : Int := if b then 1 else 0
/-- The order of literals. -/
def cmpLt (x y : Lt) : Int := thn (sg (bI x.1) (bI y.1)) (cmpT x.2 y.2)
def cmpLs : List Lt → List Lt → Int
  | [], [] => 0
  | [], _ :: _ => -1
  | _ :: _, [] => 1
  | a :: l, b :: r => thn (cmpLt a b) (cmpLs l r)
/-- The order of rules. -/
def cmpR (a b : Rl) : Int := thn (cmpT a.1 b.1) (cmpLs a.2 b.2)
theorem bI_inj {a b : Bool} : bI a = bI b ↔ a = b := by cases a <;> cases b <;> simp [bI]
theorem lt_neg (x y : Lt) : cmpLt y x = -cmpLt x y := by
  unfold cmpLt
  rw [sg_neg, cmp_neg x.2 y.2, thn_neg]
theorem lt_zero (x y : Lt) : cmpLt x y = 0 ↔ x = y := by
  unfold cmpLt
  rw [thn_zero, sg_zero, bI_inj, cmp_zero, Prod.ext_iff]
theorem lt_rng (x y : Lt) : -1 ≤ cmpLt x y ∧ cmpLt x y ≤ 1 := by
  unfold cmpLt
  refine thn_rng ?_ (cmp_rng _ _)
  unfold sg
  repeat' split
  all_goals omega
theorem tri_lt (x y z : Lt) : Tri (cmpLt x y) (cmpLt y z) (cmpLt x z) := tri_thn (tri_sg _ _ _) fun _ _ _ => tri_cmp _ _ _
theorem ls_neg : ∀ x y : List Lt, cmpLs y x = -cmpLs x y
  | [], [] => rfl
  | [], _ :: _ => rfl
  | _ :: _, [] => rfl
  | a :: x, b :: y => by simp only [cmpLs]; rw [lt_neg, ls_neg x y, thn_neg]
theorem ls_zero : ∀ x y : List Lt, cmpLs x y = 0 ↔ x = y
  | [], [] => by simp [cmpLs]
  | [], _ :: _ => by simp [cmpLs]
  | _ :: _, [] => by simp [cmpLs]
  | a :: x, b :: y => by simp only [cmpLs]; rw [thn_zero, lt_zero, ls_zero x y, List.cons.injEq]
theorem ls_rng : ∀ x y : List Lt, -1 ≤ cmpLs x y ∧ cmpLs x y ≤ 1
  | [], [] => by simp [cmpLs]
  | [], _ :: _ => by simp [cmpLs]
  | _ :: _, [] => by simp [cmpLs]
  | a :: x, b :: y => by simp only [cmpLs]; exact thn_rng (lt_rng _ _) (ls_rng x y)
theorem tri_ls : ∀ x y z : List Lt, Tri (cmpLs x y) (cmpLs y z) (cmpLs x z)
  | [], [], [] => by simp [cmpLs, Tri]
  | [], [], _ :: _ => by simp [cmpLs, Tri]
  | [], _ :: _, [] => by simp [cmpLs, Tri]
  | [], _ :: _, _ :: _ => by simp [cmpLs, Tri]
  | _ :: _, [], [] => by simp [cmpLs, Tri]
  | _ :: _, [], _ :: _ => by simp [cmpLs, Tri]
  | _ :: _, _ :: _, [] => by simp [cmpLs, Tri]
  | a :: x, b :: y, c :: z => by simp only [cmpLs]; exact tri_thn (tri_lt _ _ _) fun _ _ _ => tri_ls x y z
theorem r_neg (x y : Rl) : cmpR y x = -cmpR x y := by
  unfold cmpR
  rw [cmp_neg x.1 y.1, ls_neg x.2 y.2, thn_neg]
theorem r_zero (x y : Rl) : cmpR x y = 0 ↔ x = y := by
  unfold cmpR
  rw [thn_zero, cmp_zero, ls_zero, Prod.ext_iff]
theorem r_rng (x y : Rl) : -1 ≤ cmpR x y ∧ cmpR x y ≤ 1 := thn_rng (cmp_rng _ _) (ls_rng _ _)
theorem tri_r (x y z : Rl) : Tri (cmpR x y) (cmpR y z) (cmpR x z) := tri_thn (tri_cmp _ _ _) fun _ _ _ => tri_ls _ _ _
/-! ### Ascending lists without repetitions -/
/-- Ascending, each once. -/
def Asc {α : Type} (c : α → α → Int) (l : List α) : Prop := l.Pairwise fun x y => c x y < 0
theorem asc_head {α : Type} {c : α → α → Int} {x : α} {l : List α} (h : Asc c (x :: l)) : ∀ y ∈ l, c x y < 0 := (List.pairwise_cons.1 h).1
theorem asc_tail {α : Type} {c : α → α → Int} {x : α} {l : List α} (h : Asc c (x :: l)) : Asc c l := (List.pairwise_cons.1 h).2
/-- Two ascending lists with the same members are equal. -/
theorem asc_unique {α : Type} {c : α → α → Int} (hneg : ∀ x y, c y x = -c x y) (hzero : ∀ x y, c x y = 0 ↔ x = y) : ∀ {l m : List α}, Asc c l → Asc c m → (∀ x, x ∈ l ↔ x ∈ m) → l = m
  | [], [], _, _, _ => rfl
  | [], y :: m, _, _, h => by have := (h y).2 List.mem_cons_self; simp at this
  | x :: l, [], _, _, h => by have := (h x).1 List.mem_cons_self; simp at this
  | x :: l, y :: m, hl, hm, h => by
    have hxy : x = y := by
      by_cases e : x = y
      · exact e
      · have h1 : x ∈ m := (List.mem_cons.1 ((h x).1 List.mem_cons_self)).resolve_left e
        have h2 : y ∈ l := (List.mem_cons.1 ((h y).2 List.mem_cons_self)).resolve_left fun e' => e e'.symm
        have h3 := asc_head hm x h1
        have h4 := asc_head hl y h2
        rw [hneg y x] at h4
        omega
    subst hxy
    have hx0 : c x x = 0 := (hzero x x).2 rfl
    have : l = m := asc_unique hneg hzero (asc_tail hl) (asc_tail hm) fun z => by
      have hz := h z
      simp only [List.mem_cons] at hz
      constructor
      · intro h1
        rcases hz.1 (Or.inr h1) with e | h2
        · subst e
          have := asc_head hl z h1
          omega
        · exact h2
      · intro h1
        rcases hz.2 (Or.inr h1) with e | h2
        · subst e
          have := asc_head hm z h1
          omega
        · exact h2
    rw [this]
end NorM
end Go.Proofs.YtdkpflojdnkbnaaGreatDoor
/- The code's order of literals and of rules: compareLiterals, Compare. No conditions but names of an int's length. -/
namespace Go.Proofs.YtdkpflojdnkbnaaGreatDoor
open Go Go.RowKit
namespace NorA
open Kit LexM TermM TermI TermN TermU UniK UniM TermQ TermR UnpP NorM
theorem lt_no {x y : Lt} (h : x.1 = y.1) : cmpLt x y = cmpT x.2 y.2 := by
  unfold cmpLt
  rw [h]
  have : sg (bI y.1) (bI y.1) = 0 := (sg_zero _ _).2 rfl
  rw [this]
  rfl
set_option maxRecDepth 100000 in
set_option maxHeartbeats 3200000 in
theorem lits_any (x y : Lt) (B : Nat) (w : World) (sv sv' : Value) (hB : B ≤ w.heap.size) (hx : SlIn (· < B) w x.2.args sv) (hy : SlIn (· < B) w y.2.args sv') (hn : x.2.nm.size ≤ maxLen) (hn' : y.2.nm.size ≤ maxLen) :
    Calls Tryz.prog 29 #[.agg #[.bool x.1, .string x.2.nm, sv], .agg #[.bool y.1, .string y.2.nm, sv']] w fun e w' => e = .returned (.int .i64 (cmpLt x y)) ∧ Gr w w' := by
  obtain ⟨bx, x⟩ := x
  obtain ⟨bY, y⟩ := y
  have HT := Lib.hid (fun w' (g : Gr w w') => cmp_any x B w' sv y sv' (Nat.le_trans hB g.size) hn hn' (hx.gr g hB) (hy.gr g hB))
  have HE : Hid (bx = bY → cmpLt (bx, x) (bY, y) = cmpT x y) := Lib.hid (fun h => lt_no (x := (bx, x)) (y := (bY, y)) h)
  have HN : Hid (bx ≠ bY → cmpLt (bx, x) (bY, y) = if bx then 1 else -1) := Lib.hid (fun h => by cases bx <;> cases bY <;> simp_all [cmpLt, thn, sg, bI])
  generalize cmpLt (bx, x) (bY, y) = R at *
  obtain ⟨p, c, rfl⟩ := hx.form
  obtain ⟨p', c', rfl⟩ := hy.form
  clear hx hy hn hn'
  dsimp only at HT ⊢
  generalize cmpT x y = z at *
  generalize x.nm = xn at *
  generalize y.nm = yn at *
  cases bx
  all_goals cases bY
  · go_enter Tryz.func29, Tryz.ntmps29
    go_wp2_with fail
    refine (HT.out _ ((Gr.alloc _ _).more _)).mono ?_
    rintro e w3 ⟨rfl, g3⟩
    have G3 := Lib.hid (((Gr.alloc _ _).more _).trans g3)
    clear g3
    go_wp2_with fail
    go_ret
    exact ⟨ret_int (HE.out (by trivial)).symm, G3.out⟩
  · go_enter Tryz.func29, Tryz.ntmps29
    go_wp2_with fail
    go_ret
    exact ⟨ret_int (by rw [HN.out (by decide)]; rfl), (Gr.alloc _ _).more _⟩
  · go_enter Tryz.func29, Tryz.ntmps29
    go_wp2_with fail
    go_ret
    exact ⟨ret_int (by rw [HN.out (by decide)]; rfl), (Gr.alloc _ _).more _⟩
  · go_enter Tryz.func29, Tryz.ntmps29
    go_wp2_with fail
    refine (HT.out _ ((Gr.alloc _ _).more _)).mono ?_
    rintro e w3 ⟨rfl, g3⟩
    have G3 := Lib.hid (((Gr.alloc _ _).more _).trans g3)
    clear g3
    go_wp2_with fail
    go_ret
    exact ⟨ret_int (HE.out (by trivial)).symm, G3.out⟩
theorem ls_at {l r : List Lt} {k : Nat} {x y : Lt} (h : l[k]? = some x) (h' : r[k]? = some y) : cmpLs (l.drop k) (r.drop k) = thn (cmpLt x y) (cmpLs (l.drop (k + 1)) (r.drop (k + 1))) := by
  rw [UnpP.drop_get h, UnpP.drop_get h']; simp only [cmpLs]
theorem ls_short {l r : List Lt} {k : Nat} (h : k < l.length) (h' : r.length ≤ k) : cmpLs (l.drop k) (r.drop k) = 1 := by
  rw [List.drop_eq_nil_of_le h', List.drop_eq_getElem_cons h]; simp only [cmpLs]
theorem ls_end {l r : List Lt} {k : Nat} (h : l.length ≤ k) (h' : k ≤ r.length) : cmpLs (l.drop k) (r.drop k) = if k < r.length then -1 else 0 := by
  rw [List.drop_eq_nil_of_le h]
  split
  · rename_i hk; rw [List.drop_eq_getElem_cons hk]; simp only [cmpLs]
  · rw [List.drop_eq_nil_of_le (by omega)]; simp only [cmpLs]
set_option maxRecDepth 100000 in
set_option maxHeartbeats 3200000 in
theorem funcl_any (l r : List Lt) (B : Nat) (w : World) (v v' : Value) (hB : B ≤ w.heap.size) (h : LIn (· < B) w l v) (h' : LIn (· < B) w r v') :
    Calls Tryz.prog 28 #[v, v', .func (.func 29) #[] #[]] w fun e w' => e = .returned (.int .i64 (cmpLs l r)) ∧ Gr w w' := by
  obtain ⟨p, c, rfl, hc, hm, hR⟩ := UnpP.LIn.row h
  obtain ⟨p', c', rfl, hc', hm', hR'⟩ := UnpP.LIn.row h'
  have hlf : l.length ≤ 9223372036854775807 := Nat.le_trans hc hm
  have hlf' : r.length ≤ 9223372036854775807 := Nat.le_trans hc' hm'
  have HR := Lib.hid hR
  have HR' := Lib.hid hR'
  have HB := Lib.hid hB
  have L1 : Hid (∀ k x y, l[k]? = some x → r[k]? = some y → cmpLs (l.drop k) (r.drop k) = thn (cmpLt x y) (cmpLs (l.drop (k + 1)) (r.drop (k + 1)))) := Lib.hid (fun k x y h h' => ls_at h h')
  have L2 : Hid (∀ k, k < l.length → r.length ≤ k → cmpLs (l.drop k) (r.drop k) = 1) := Lib.hid (fun k h h' => ls_short h h')
  have L3 : Hid (∀ k, l.length ≤ k → k ≤ r.length → cmpLs (l.drop k) (r.drop k) = if k < r.length then -1 else 0) := Lib.hid (fun k h h' => ls_end h h')
  have L0 : Hid (cmpLs l r = cmpLs (l.drop 0) (r.drop 0)) := rfl
  generalize cmpLs l r = R at *
  generalize hlm : l.length = m at *
  generalize hrm : r.length = m' at *
  have HM := Lib.hid hlm
  have HM' := Lib.hid hrm
  clear hR hR' h h' hc hc' hm hm' hlm hrm
  go_enter Tryz.func28, Tryz.ntmps28
  go_wp2_with fail
  go_loopw [13] (fun i wr => ∃ k : Nat, k ≤ m ∧ k ≤ m' ∧ i = .int .i64 k ∧ Hid (R = cmpLs (l.drop k) (r.drop k)) ∧ Hid (Gr w wr)) (fun i _ => m - (intOf i).toNat)
  case atStart => exact ⟨0, Nat.zero_le _, Nat.zero_le _, rfl, L0, Lib.hid (Gr.refl _)⟩
  case round =>
    obtain ⟨k, hk, hk', rfl, hA, hg⟩ := hrel
    by_cases hlt : k < m
    · obtain ⟨t, b, o, q, d, ht, rfl, hb, c1, c2, c3, hs, hts⟩ := (HR.out.gr hg.out HB.out) k (by rw [HM.out]; exact hlt)
      have HS := Lib.hid hs
      have HTS := Lib.hid hts
      have HT := Lib.hid ht
      clear hs hts ht
      by_cases hlt' : k < m'
      · obtain ⟨t', b', o', q', d', ht', rfl, hb', c1', c2', c3', hs', hts'⟩ := (HR'.out.gr hg.out HB.out) k (by rw [HM'.out]; exact hlt')
        have HS' := Lib.hid hs'
        have HTS' := Lib.hid hts'
        have N1 := Lib.hid (L1.out k t t' HT.out ht')
        have hbl' : b' < wr.heap.size := Nat.lt_of_lt_of_le hb' (Nat.le_trans HB.out hg.out.size)
        clear hs' hts' ht'
        go_wp2_with fail
        refine (lits_any t t' B _ _ _ (Nat.le_trans HB.out (((hg.out.more _).more _)).size) (HS.out.gr ((Gr.alloc _ _).more _) (Nat.le_trans HB.out hg.out.size)) (HS'.out.gr ((Gr.alloc _ _).more _) (Nat.le_trans HB.out hg.out.size)) HTS.out HTS'.out).mono ?_
        rintro e w' ⟨rfl, g2⟩
        have hg2 := Lib.hid (((hg.out.more _).more _).trans g2)
        clear g2
        generalize cmpLt t t' = z at *
        by_cases hz : z = 0
        · subst hz
          have HA2 : Hid (R = cmpLs (l.drop (k + 1)) (r.drop (k + 1))) := Lib.hid (by rw [hA.out, N1.out]; simp [thn])
          go_wp2_with fail
          go_roundw
          case rel => exact ⟨k + 1, by omega, by omega, by go_num, HA2, hg2⟩
          case measure => simp [intOf]; omega
        · have hz1 : (z != 0) = true := by simpa using hz
          have HA2 : Hid (R = z) := Lib.hid (by rw [hA.out, N1.out]; simp [thn, hz])
          clear hz
          go_wp2_with fail
          go_ret
          exact ⟨ret_int HA2.out.symm, hg2.out⟩
      · obtain rfl : k = m' := by omega
        have HA2 : Hid (R = 1) := Lib.hid (by rw [hA.out]; exact L2.out k hlt (Nat.le_refl _))
        go_wp2_with fail
        go_ret
        exact ⟨ret_int HA2.out.symm, hg.out.more _⟩
    · obtain rfl : k = m := by omega
      have HA2 := hA.out.trans (L3.out k (Nat.le_refl _) hk')
      by_cases h2 : k < m'
      · rw [if_pos h2] at HA2
        have HA3 := Lib.hid HA2
        clear HA2
        go_wp2_with fail
        go_ret
        exact ⟨ret_int HA3.out.symm, hg.out⟩
      · rw [if_neg h2] at HA2
        have HA3 := Lib.hid HA2
        clear HA2
        go_wp2_with fail
        go_ret
        exact ⟨ret_int HA3.out.symm, hg.out⟩
set_option maxRecDepth 100000 in
set_option maxHeartbeats 3200000 in
theorem cmpr_any (x y : Tm) (l r : List Lt) (B : Nat) (w : World) (sv sv' v v' : Value) (hB : B ≤ w.heap.size) (hx : SlIn (· < B) w x.args sv) (hy : SlIn (· < B) w y.args sv') (hn : x.nm.size ≤ maxLen) (hn' : y.nm.size ≤ maxLen) (h : LIn (· < B) w l v) (h' : LIn (· < B) w r v') :
    Calls Tryz.prog 12 #[.agg #[.string x.nm, sv, v], .agg #[.string y.nm, sv', v']] w fun e w' => e = .returned (.int .i64 (cmpR (x, l) (y, r))) ∧ Gr w w' := by
  have HT := Lib.hid (fun w' (g : Gr w w') => cmp_any x B w' sv y sv' (Nat.le_trans hB g.size) hn hn' (hx.gr g hB) (hy.gr g hB))
  have HF := Lib.hid (fun w' (g : Gr w w') => funcl_any l r B w' v v' (Nat.le_trans hB g.size) (h.keep fun b o hb => g.cell (Nat.lt_of_lt_of_le hb hB)) (h'.keep fun b o hb => g.cell (Nat.lt_of_lt_of_le hb hB)))
  have HQ : Hid (cmpR (x, l) (y, r) = thn (cmpT x y) (cmpLs l r)) := Lib.hid rfl
  generalize cmpR (x, l) (y, r) = R at *
  obtain ⟨p, c, rfl⟩ := hx.form
  obtain ⟨p', c', rfl⟩ := hy.form
  obtain ⟨lp, lc, rfl⟩ := h.form
  obtain ⟨lp', lc', rfl⟩ := h'.form
  clear hx hy h h' hn hn'
  generalize cmpT x y = z at *
  generalize cmpLs l r = z2 at *
  generalize x.nm = xn at *
  generalize y.nm = yn at *
  go_enter Tryz.func12, Tryz.ntmps12
  go_wp2_with fail
  refine (HT.out _ ((Gr.alloc _ _).more _)).mono ?_
  rintro e w3 ⟨rfl, g3⟩
  have G3 := Lib.hid (((Gr.alloc _ _).more _).trans g3)
  obtain ⟨a1, a2, a3, a4, a5, a6, a7⟩ := UnpP.has3 (((Has.new w 27 #[.string xn, .slice p x.args.length c, .slice lp l.length lc]).alloc _).step0 g3.1)
  obtain ⟨b1, b2, b3, b4, b5, b6, b7⟩ := UnpP.has3 ((Has.new1 w _ 27 #[.string yn, .slice p' y.args.length c', .slice lp' r.length lc']).step0 g3.1)
  clear g3
  by_cases hz : z = 0
  · subst hz
    go_wp2_with fail
    refine (HF.out _ G3.out).mono ?_
    rintro e w5 ⟨rfl, g5⟩
    have G5 := Lib.hid (G3.out.trans g5)
    clear g5
    go_wp2_with fail
    go_ret
    exact ⟨ret_int (by rw [HQ.out]; simp [thn]), G5.out⟩
  · have hz1 : (z != 0) = true := by simpa using hz
    have HA2 : Hid (R = z) := Lib.hid (by rw [HQ.out]; simp [thn, hz])
    clear hz
    go_wp2_with fail
    go_ret
    exact ⟨ret_int HA2.out.symm, G3.out⟩
end NorA
end Go.Proofs.YtdkpflojdnkbnaaGreatDoor
/- Lists of rules compared: Equal's closure, slices.EqualFunc. No conditions but names of an int's length. -/
namespace Go.Proofs.YtdkpflojdnkbnaaGreatDoor
open Go Go.RowKit
namespace NorH
open Kit LexM TermM TermI TermN TermU UniK UniM TermQ TermR UnpP NorM NorA
/-- The rules of a list, three cells each. -/
def RowR (B : Nat) (w : World) (l : List Rl) (p : Option Addr) : Prop := ∀ k, k < l.length → ∃ t b o q d lp lc, l[k]? = some t ∧ p = some ⟨b, o, none⟩ ∧ b < B ∧ w.cell? ⟨b, o + k * 3, none⟩ = some (.string t.1.nm) ∧ w.cell? ⟨b, o + k * 3 + 1, none⟩ = some (.slice q t.1.args.length d) ∧
  w.cell? ⟨b, o + k * 3 + 2, none⟩ = some (.slice lp t.2.length lc) ∧ SlIn (· < B) w t.1.args (.slice q t.1.args.length d) ∧ t.1.nm.size ≤ maxLen ∧ LIn (· < B) w t.2 (.slice lp t.2.length lc)
theorem RIn.row {B : Nat} {w : World} {l : List Rl} {v : Value} (h : RIn (· < B) w l v) : ∃ p c, v = .slice p l.length c ∧ l.length ≤ c ∧ c ≤ maxLen ∧ RowR B w l p := by
  obtain ⟨L, rfl, p, c, e, h1, h2, h3, h4⟩ := h
  refine ⟨p, c, by rw [e]; simp, by simpa using h1, h2, fun k hk => ?_⟩
  have hk' : k < L.length := by simpa using hk
  obtain ⟨g, o, e1, e2, e3⟩ := h4 (by omega)
  obtain ⟨x, hx⟩ : ∃ x, L[k]? = some x := ⟨L[k], by simp [hk']⟩
  obtain ⟨s1, s2, s3⟩ := h3 x (List.mem_of_getElem? hx)
  obtain ⟨q, d, eq⟩ := s1.form
  obtain ⟨lp, lc, el⟩ := s3.form
  refine ⟨x.1, g, o, q, d, lp, lc, by simp [hx], e1, e2, e3 k x hx 0 _ rfl, ?_, ?_, by rw [← eq]; exact s1, s2, by rw [← el]; exact s3⟩
  · rw [← eq]
    exact e3 k x hx 1 _ rfl
  · rw [← el]
    exact e3 k x hx 2 _ rfl
theorem RowR.gr {B : Nat} {w w' : World} {l : List Rl} {p : Option Addr} (h : RowR B w l p) (g : Gr w w') (hB : B ≤ w.heap.size) : RowR B w' l p := fun k hk => by
  obtain ⟨t, b, o, q, d, lp, lc, h1, h2, h3, h4, h5, h6, h7, h8, h9⟩ := h k hk
  exact ⟨t, b, o, q, d, lp, lc, h1, h2, h3, (g.cell (Nat.lt_of_lt_of_le h3 hB)).trans h4, (g.cell (Nat.lt_of_lt_of_le h3 hB)).trans h5, (g.cell (Nat.lt_of_lt_of_le h3 hB)).trans h6, h7.gr g hB, h8, h9.keep fun _ _ hb => g.cell (Nat.lt_of_lt_of_le hb hB)⟩
theorem eqr_at {l r : List Rl} {k : Nat} {x y : Rl} (h : l[k]? = some x) (h' : r[k]? = some y) : l.drop k = r.drop k ↔ x = y ∧ l.drop (k + 1) = r.drop (k + 1) := by
  rw [UnpP.drop_get h, UnpP.drop_get h']; simp
set_option maxRecDepth 100000 in
set_option maxHeartbeats 3200000 in
theorem eq1_any (x y : Rl) (B : Nat) (w : World) (sv sv' v v' : Value) (hB : B ≤ w.heap.size) (hx : SlIn (· < B) w x.1.args sv) (hy : SlIn (· < B) w y.1.args sv') (hn : x.1.nm.size ≤ maxLen) (hn' : y.1.nm.size ≤ maxLen) (h : LIn (· < B) w x.2 v) (h' : LIn (· < B) w y.2 v') :
    Calls Tryz.prog 51 #[.agg #[.string x.1.nm, sv, v], .agg #[.string y.1.nm, sv', v']] w fun e w' => e = .returned (.bool (cmpR x y == 0)) ∧ Gr w w' := by
  have K := Lib.hid (fun w' (g : Gr w w') => cmpr_any x.1 y.1 x.2 y.2 B w' sv sv' v v' (Nat.le_trans hB g.size) (hx.gr g hB) (hy.gr g hB) hn hn' (h.keep fun _ _ hb => g.cell (Nat.lt_of_lt_of_le hb hB)) (h'.keep fun _ _ hb => g.cell (Nat.lt_of_lt_of_le hb hB)))
  obtain ⟨p, c, rfl⟩ := hx.form
  obtain ⟨p', c', rfl⟩ := hy.form
  obtain ⟨lp, lc, rfl⟩ := h.form
  obtain ⟨lp', lc', rfl⟩ := h'.form
  obtain ⟨x, l⟩ := x
  obtain ⟨y, r⟩ := y
  dsimp only at *
  clear hx hy h h' hn hn'
  generalize cmpR (x, l) (y, r) = z at *
  go_enter Tryz.func51, Tryz.ntmps51
  go_wp2_with fail
  refine (K.out _ ((Gr.alloc _ _).more _)).mono ?_
  rintro e w3 ⟨rfl, g3⟩
  have G3 := Lib.hid (((Gr.alloc _ _).more _).trans g3)
  clear g3
  go_wp2_with fail
  go_ret
  exact ⟨rfl, G3.out⟩
set_option maxRecDepth 100000 in
set_option maxHeartbeats 3200000 in
theorem eqf_any (l r : List Rl) (R : Bool) (hRR : R = true ↔ l = r) (B : Nat) (w : World) (v v' : Value) (hB : B ≤ w.heap.size) (h : RIn (· < B) w l v) (h' : RIn (· < B) w r v') :
    Calls Tryz.prog 50 #[v, v', .func (.func 51) #[] #[]] w fun e w' => e = .returned (.bool R) ∧ Gr w w' := by
  obtain ⟨p, c, rfl, hc, hm, hR⟩ := RIn.row h
  obtain ⟨p', c', rfl, hc', hm', hR'⟩ := RIn.row h'
  have hlf : l.length ≤ 9223372036854775807 := Nat.le_trans hc hm
  have hlf' : r.length ≤ 9223372036854775807 := Nat.le_trans hc' hm'
  have HR := Lib.hid hR
  have HR' := Lib.hid hR'
  have HB := Lib.hid hB
  have HQ := Lib.hid hRR
  have L1 := Lib.hid (fun k x y h h' => eqr_at (l := l) (r := r) (k := k) (x := x) (y := y) h h')
  have LE : Hid (l.length ≠ r.length → R = false) := Lib.hid (fun hne => by cases hR0 : R with | false => rfl | true => exact absurd (congrArg List.length (hRR.1 hR0)) hne)
  have LZ : Hid (l.drop l.length = r.drop r.length) := Lib.hid (by rw [List.drop_length, List.drop_length])
  have L0 : Hid (R = true ↔ l.drop 0 = r.drop 0) := Lib.hid hRR
  generalize hlm : l.length = m at *
  generalize hrm : r.length = m' at *
  have HM := Lib.hid hlm
  have HM' := Lib.hid hrm
  clear hR hR' h h' hc hc' hm hm' hlm hrm hRR
  by_cases hmm : m = m'
  · subst hmm
    clear LE
    have q0 : ((m : Int) != (m : Int)) = false := by simp
    go_enter Tryz.func50, Tryz.ntmps50
    go_wp2_with fail
    go_loopw [17] (fun i wr => ∃ k : Nat, k ≤ m ∧ i = .int .i64 k ∧ Hid (R = true ↔ l.drop k = r.drop k) ∧ Hid (Gr w wr)) (fun i _ => m - (intOf i).toNat)
    case atStart => exact ⟨0, Nat.zero_le _, rfl, L0, Lib.hid (Gr.refl _)⟩
    case round =>
      obtain ⟨k, hk, rfl, hA, hg⟩ := hrel
      by_cases hlt : k < m
      · obtain ⟨t, b, o, q, d, lp, lc, ht, rfl, hb, c1, c2, c3, hs, hts, hls⟩ := (RowR.gr HR.out hg.out HB.out) k (by rw [HM.out]; exact hlt)
        obtain ⟨t', b', o', q', d', lp', lc', ht', rfl, hb', c1', c2', c3', hs', hts', hls'⟩ := (RowR.gr HR'.out hg.out HB.out) k (by rw [HM'.out]; exact hlt)
        have N1 := Lib.hid (L1.out k t t' ht ht')
        have KK := Lib.hid (fun w2 (g : Gr wr w2) => eq1_any t t' B w2 _ _ _ _ (Nat.le_trans HB.out (hg.out.trans g).size) (hs.gr g (Nat.le_trans HB.out hg.out.size)) (hs'.gr g (Nat.le_trans HB.out hg.out.size)) hts hts' (hls.keep fun _ _ hb => g.cell (Nat.lt_of_lt_of_le hb (Nat.le_trans HB.out hg.out.size))) (hls'.keep fun _ _ hb => g.cell (Nat.lt_of_lt_of_le hb (Nat.le_trans HB.out hg.out.size))))
        have ZZ := Lib.hid (r_zero t t')
        have hbl' : b' < wr.heap.size := Nat.lt_of_lt_of_le hb' (Nat.le_trans HB.out hg.out.size)
        clear hs hts hls hs' hts' hls' ht ht'
        generalize cmpR t t' = z at *
        go_wp2_with fail
        refine (KK.out _ ((Gr.alloc _ _).more _)).mono ?_
        rintro e w5 ⟨rfl, g2⟩
        have hg2 := Lib.hid (hg.out.trans (((Gr.alloc _ _).more _).trans g2))
        clear g2
        by_cases hz : z = 0
        · subst hz
          have q1 : ((0 : Int) == 0) = true := rfl
          have HA2 : Hid (R = true ↔ l.drop (k + 1) = r.drop (k + 1)) := Lib.hid (hA.out.trans (N1.out.trans ⟨fun e => e.2, fun e => ⟨ZZ.out.1 rfl, e⟩⟩))
          go_wp2_with fail
          go_roundw
          case rel => exact ⟨k + 1, by omega, by go_num, HA2, hg2⟩
          case measure => simp [intOf]; omega
        · have hz1 : (z == 0) = false := by simpa using hz
          have HA2 : Hid (R = false) := Lib.hid (by cases hR0 : R with | false => rfl | true => exact absurd (ZZ.out.2 (N1.out.1 (hA.out.1 hR0)).1) hz)
          clear hz
          go_wp2_with fail
          go_ret
          exact ⟨by rw [HA2.out]; rfl, hg2.out⟩
      · obtain rfl : k = m := by omega
        have HA2 : Hid (R = true) := Lib.hid (hA.out.2 LZ.out)
        go_wp2_with fail
        go_ret
        exact ⟨by rw [HA2.out]; rfl, hg.out⟩
  · have HA2 := Lib.hid (LE.out hmm)
    have q0 : ((m : Int) != (m' : Int)) = true := by rw [bne_iff_ne]; omega
    clear LE LZ
    go_enter Tryz.func50, Tryz.ntmps50
    go_wp2_with fail
    go_ret
    exact ⟨by rw [HA2.out]; rfl, Gr.refl _⟩
end NorH
end Go.Proofs.YtdkpflojdnkbnaaGreatDoor
/- The orders of a list that eachOrder goes through, as plain data. No conditions. -/
namespace Go.Proofs.YtdkpflojdnkbnaaGreatDoor
open Go
namespace NorP
open LexM TermM UniM UniK NorM
section
variable {α : Type} [Inhabited α]
/-- Two elements exchanged. -/
def swp (ts : List α) (i j : Nat) : List α := (ts.set i (ts.getD j default)).set j (ts.getD i default)
theorem swp_len (ts : List α) (i j : Nat) : (swp ts i j).length = ts.length := by simp [swp]
theorem swp_get (ts : List α) {i j : Nat} (hi : i < ts.length) (hj : j < ts.length) (k : Nat) : (swp ts i j)[k]? = if k = j then ts[i]? else if k = i then ts[j]? else ts[k]? := by
  unfold swp
  have e1 : ts.getD j default = ts[j] := by simp [List.getD, hj]
  have e2 : ts.getD i default = ts[i] := by simp [List.getD, hi]
  rw [e1, e2, List.getElem?_set, List.getElem?_set]
  by_cases h1 : k = j
  · subst h1
    simp [hi, hj]
  · by_cases h2 : k = i
    · subst h2
      simp [h1, hi, hj, Ne.symm h1]
    · simp [h1, h2, Ne.symm h1, Ne.symm h2]
theorem swp_swp (ts : List α) {i j : Nat} (hi : i < ts.length) (hj : j < ts.length) : swp (swp ts i j) i j = ts := by
  apply List.ext_getElem?
  intro k
  have hi' : i < (swp ts i j).length := by rw [swp_len]; exact hi
  have hj' : j < (swp ts i j).length := by rw [swp_len]; exact hj
  rw [swp_get _ hi' hj', swp_get _ hi hj, swp_get _ hi hj, swp_get _ hi hj]
  by_cases h1 : k = j
  · subst h1
    by_cases h3 : i = k
    · simp [h3]
    · simp [h3]
  · by_cases h2 : k = i
    · subst h2
      simp [h1]
    · simp [h1, h2]
theorem swp_perm (ts : List α) {i j : Nat} (hi : i < ts.length) (hj : j < ts.length) : (swp ts i j).Perm ts := by
  induction ts generalizing i j with
  | nil => simp at hi
  | cons a l ih =>
    match i, j with
    | 0, 0 => simp [swp]
    | 0, j + 1 =>
      have hj' : j < l.length := by simpa using hj
      have e : swp (a :: l) 0 (j + 1) = l[j] :: l.set j a := by simp [swp, List.getD, hj']
      rw [e]
      exact (set_perm l j hj' a)
    | i + 1, 0 =>
      have hi' : i < l.length := by simpa using hi
      have e : swp (a :: l) (i + 1) 0 = l[i] :: l.set i a := by simp [swp, List.getD, hi']
      rw [e]
      exact (set_perm l i hi' a)
    | i + 1, j + 1 =>
      have hi' : i < l.length := by simpa using hi
      have hj' : j < l.length := by simpa using hj
      have e : swp (a :: l) (i + 1) (j + 1) = a :: swp l i j := by simp [swp]
      rw [e]
      exact (ih hi' hj').cons a
where
  set_perm : ∀ (l : List α) (j : Nat) (hj : j < l.length) (a : α), (l[j] :: l.set j a).Perm (a :: l)
    | b :: l, 0, _, a => by simpa using List.Perm.swap a b l
    | b :: l, j + 1, hj, a => by
      have hj' : j < l.length := by simpa using hj
      have h := set_perm l j hj' a
      simp only [List.getElem_cons_succ, List.set_cons_succ]
      exact (List.Perm.swap b l[j] (l.set j a)).trans ((h.cons b).trans (List.Perm.swap a b l))
theorem swp_take (ts : List α) {i j k : Nat} (hi : i < ts.length) (hj : j < ts.length) (h1 : k ≤ i) (h2 : k ≤ j) : (swp ts i j).take k = ts.take k := by
  apply List.ext_getElem?
  intro m
  rw [List.getElem?_take, List.getElem?_take]
  by_cases hm : m < k
  · rw [if_pos hm, if_pos hm, swp_get _ hi hj, if_neg (by omega), if_neg (by omega)]
  · rw [if_neg hm, if_neg hm]
/-- What eachOrder visits: d is how many elements stand from index k on. -/
def vis : Nat → List α → Nat → List (List α)
  | 0, ts, _ => [ts]
  | d + 1, ts, k => (List.range (d + 1)).flatMap fun j => vis d (swp ts k (k + j)) (k + 1)
theorem vis_sub : ∀ (d : Nat) (ts : List α) (k : Nat), k + d = ts.length → ∀ u ∈ vis d ts k, u.Perm ts ∧ u.take k = ts.take k
  | 0, ts, k, _, u, hu => by
    obtain rfl := List.mem_singleton.1 hu
    exact ⟨List.Perm.refl _, rfl⟩
  | d + 1, ts, k, h, u, hu => by
    obtain ⟨j, hj, hu⟩ := List.mem_flatMap.1 hu
    have hj' : j < d + 1 := by simpa using hj
    obtain ⟨h1, h2⟩ := vis_sub d (swp ts k (k + j)) (k + 1) (by rw [swp_len]; omega) u hu
    refine ⟨h1.trans (swp_perm ts (by omega) (by omega)), ?_⟩
    have := congrArg (List.take k) h2
    rw [List.take_take, List.take_take, Nat.min_eq_left (by omega), swp_take ts (by omega) (by omega) (Nat.le_refl _) (by omega)] at this
    exact this
theorem vis_all : ∀ (d : Nat) (ts : List α) (k : Nat), k + d = ts.length → ∀ u : List α, u.Perm ts → u.take k = ts.take k → u ∈ vis d ts k
  | 0, ts, k, h, u, hp, ht => by
    have h1 : u.length = ts.length := hp.length_eq
    rw [List.take_of_length_le (by omega), List.take_of_length_le (by omega)] at ht
    subst ht
    exact List.mem_singleton.2 rfl
  | d + 1, ts, k, h, u, hp, ht => by
    have h1 : u.length = ts.length := hp.length_eq
    have hd : (u.drop k).Perm (ts.drop k) := by
      have := hp
      rw [← List.take_append_drop k u, ← List.take_append_drop k ts, ht] at this
      exact (List.perm_append_left_iff _).1 this
    have hku : k < u.length := by omega
    have hmem : u[k] ∈ ts.drop k := hd.mem_iff.1 (by rw [List.drop_eq_getElem_cons hku]; exact List.mem_cons_self)
    obtain ⟨j, hj, hx⟩ := List.mem_iff_getElem.1 hmem
    have hjl : k + j < ts.length := by rw [List.length_drop] at hj; omega
    have hx' : ts[k + j] = u[k] := by rw [← hx, List.getElem_drop]
    refine List.mem_flatMap.2 ⟨j, by simpa using (show j < d + 1 by omega), vis_all d (swp ts k (k + j)) (k + 1) (by rw [swp_len]; omega) u (hp.trans (swp_perm ts (by omega) hjl).symm) ?_⟩
    apply List.ext_getElem?
    intro m
    rw [List.getElem?_take, List.getElem?_take]
    by_cases hm : m < k + 1
    · rw [if_pos hm, if_pos hm, swp_get ts (by omega) hjl]
      by_cases hmk : m = k
      · subst hmk
        rw [List.getElem?_eq_getElem hku, ← hx']
        by_cases h0 : m = m + j
        · rw [if_pos h0]
          have : j = 0 := by omega
          subst this
          simp [List.getElem?_eq_getElem (show m < ts.length by omega)]
        · rw [if_neg h0, if_pos rfl, List.getElem?_eq_getElem hjl]
      · rw [if_neg (by omega), if_neg hmk]
        have := congrArg (fun l => l[m]?) ht
        simp only [List.getElem?_take] at this
        rw [if_pos (by omega), if_pos (by omega)] at this
        exact this
    · rw [if_neg hm, if_neg hm]
end
end NorP
end Go.Proofs.YtdkpflojdnkbnaaGreatDoor
/- Normal forms as plain data: what they are, that there is at most one, and what does not change them. No conditions. -/
namespace Go.Proofs.YtdkpflojdnkbnaaGreatDoor
open Go
namespace NorQ
open LexM TermM UniM UniK UniD NorM
/-- The k-th variable of normal forms. -/
def nmV (k : Nat) : ByteArray := ⟨#[86, UInt8.ofNat (49 + k)]⟩
def vTs (n : Nat) : List Tm := (List.range n).map fun k => .mk (nmV k) []
/-- The names of the leaves of a rule. -/
def lvsR (r : Rl) : List ByteArray := leavesL (r.1 :: r.2.map (·.2))
/-- These are the variables of a rule, each once. -/
def IsVars (r : Rl) (V : List ByteArray) : Prop := V.Nodup ∧ ∀ n, n ∈ V ↔ varB n = true ∧ n ∈ lvsR r
/-- A way of replacing variables by V1, V2 and so on. -/
def IsRen (V : List ByteArray) (φ : ByteArray → Tm) : Prop := (V.map φ).Perm (vTs V.length) ∧ ∀ m, m ∉ V → φ m = .mk m []
/-- A rule that is replaced so, its body arranged. -/
def Cand (V : List ByteArray) (r x : Rl) : Prop := ∃ φ, IsRen V φ ∧ x.1 = repT φ r.1 ∧ Asc cmpLt x.2 ∧ ∀ y, y ∈ x.2 ↔ ∃ z ∈ r.2, y = (z.1, repT φ z.2)
def IsNF (V : List ByteArray) (r x : Rl) : Prop := Cand V r x ∧ ∀ y, Cand V r y → cmpR x y ≤ 0
theorem nf_unique {V : List ByteArray} {r x y : Rl} (h : IsNF V r x) (k : IsNF V r y) : x = y := by
  have h1 := h.2 y k.1
  have h2 := k.2 x h.1
  rw [r_neg] at h2
  exact (r_zero x y).1 (by omega)
theorem vars_perm {r : Rl} {V V' : List ByteArray} (h : IsVars r V) (h' : IsVars r V') : V.Perm V' := (List.perm_ext_iff_of_nodup h.1 h'.1).2 fun n => (h.2 n).trans (h'.2 n).symm
theorem ren_perm {V V' : List ByteArray} (h : V.Perm V') {φ : ByteArray → Tm} (k : IsRen V φ) : IsRen V' φ :=
  ⟨((h.map φ).symm.trans k.1).trans (by rw [h.length_eq]), fun m hm => k.2 m fun e => hm (h.mem_iff.1 e)⟩
theorem cand_perm {V V' : List ByteArray} (h : V.Perm V') {r x : Rl} (k : Cand V r x) : Cand V' r x := by
  obtain ⟨φ, h1, h2⟩ := k
  exact ⟨φ, ren_perm h h1, h2⟩
theorem nf_perm {V V' : List ByteArray} (h : V.Perm V') {r x : Rl} (k : IsNF V r x) : IsNF V' r x := ⟨cand_perm h k.1, fun y hy => k.2 y (cand_perm h.symm hy)⟩
/-- What is a leaf of a replaced term. -/
theorem rep_leaf (φ : ByteArray → Tm) (t : Tm) : (∀ n ∈ leavesT t, ∃ m, φ n = .mk m []) → ∀ m, m ∈ leavesT (repT φ t) ↔ ∃ n ∈ leavesT t, φ n = .mk m [] := by
  induction t using Tm.ind with
  | h n l ih =>
    intro hφ m
    cases l with
    | nil =>
      obtain ⟨k, hk⟩ := hφ n (by simp [leavesT])
      simp [repT, leavesT, hk, eq_comm]
    | cons a l =>
      have e : repT φ (.mk n (a :: l)) = .mk n ((a :: l).map (repT φ)) := by rw [repT, if_neg (by simp), repL_map]
      have key : ∀ (l : List Tm), (∀ t ∈ l, ∀ n ∈ leavesT t, ∃ m, φ n = .mk m []) → (∀ t ∈ l, (∀ n ∈ leavesT t, ∃ m, φ n = .mk m []) → ∀ m, m ∈ leavesT (repT φ t) ↔ ∃ n ∈ leavesT t, φ n = .mk m []) → (m ∈ leavesL (l.map (repT φ)) ↔ ∃ n ∈ leavesL l, φ n = .mk m []) := by
        intro l
        induction l with
        | nil => intro _ _; simp [leavesL]
        | cons b l ihl =>
          intro h1 h2
          simp only [List.map_cons, leavesL, List.mem_append]
          rw [h2 b List.mem_cons_self (h1 b List.mem_cons_self) m, ihl (fun t ht => h1 t (List.mem_cons_of_mem _ ht)) (fun t ht => h2 t (List.mem_cons_of_mem _ ht))]
          constructor
          · rintro (⟨n, hn, h⟩ | ⟨n, hn, h⟩)
            · exact ⟨n, Or.inl hn, h⟩
            · exact ⟨n, Or.inr hn, h⟩
          · rintro ⟨n, hn | hn, h⟩
            · exact Or.inl ⟨n, hn, h⟩
            · exact Or.inr ⟨n, hn, h⟩
      rw [e]
      have e2 : leavesT (.mk n ((a :: l).map (repT φ))) = leavesL ((a :: l).map (repT φ)) := by simp [leavesT]
      have e3 : leavesT (.mk n (a :: l)) = leavesL (a :: l) := by simp [leavesT]
      rw [e2, e3]
      rw [e3] at hφ
      refine key (a :: l) (fun t ht n hn => hφ n (mem_leaves ht hn)) fun t ht h => ih t ht h
where
  mem_leaves : ∀ {l : List Tm} {t : Tm} {n : ByteArray}, t ∈ l → n ∈ leavesT t → n ∈ leavesL l
    | a :: l, t, n, ht, hn => by
      simp only [leavesL, List.mem_append]
      rcases List.mem_cons.1 ht with rfl | h
      · exact Or.inl hn
      · exact Or.inr (mem_leaves h hn)
end NorQ
end Go.Proofs.YtdkpflojdnkbnaaGreatDoor
