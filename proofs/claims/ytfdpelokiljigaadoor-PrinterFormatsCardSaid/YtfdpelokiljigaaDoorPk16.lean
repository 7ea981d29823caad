/- Texts laid together: PriD; PriG; PriH; PriI. Their own heads stand before each. -/
import Derived.Test.YtfdpelokiljigaaDoorPk15
import Derived.Defers
import Derived.Recover
/- Valid of rules, of the code and of the reference. No conditions on sizes. -/
namespace Go.Proofs.YtfdpelokiljigaaDoor
open Go Go.RowKit
namespace PriD
open LexM TermM TermI Kit TermN TermU ParM ParK ParP PriM PriA PriC
def vlB (r : Rl) : Bool := decide (r.2.length ≤ 8) && (atB r.1 && r.2.all (fun x => atB x.2))
theorem vl_long {r : Rl} (h : 8 < r.2.length) : vlB r = false := by
  unfold vlB
  rw [decide_eq_false (by omega), Bool.false_and]
theorem vl_head {r : Rl} (h : atB r.1 = false) : vlB r = false := by
  unfold vlB
  rw [h, Bool.false_and, Bool.and_false]
theorem vl_body {r : Rl} {k : Nat} {x : Lt} (hk : r.2[k]? = some x) (h : atB x.2 = false) : vlB r = false := by
  have : r.2.all (fun x => atB x.2) = false := by
    rw [List.all_eq_false]
    exact ⟨x, List.mem_of_getElem? hk, by simp [h]⟩
  unfold vlB
  rw [this, Bool.and_false, Bool.and_false]
theorem vl_true {r : Rl} (h1 : r.2.length ≤ 8) (h2 : atB r.1 = true) (h3 : ∀ k x, k < r.2.length → r.2[k]? = some x → atB x.2 = true) : vlB r = true := by
  have : r.2.all (fun x => atB x.2) = true := by
    rw [List.all_eq_true]
    intro x hx
    obtain ⟨k, hk, e⟩ := List.getElem_of_mem hx
    exact h3 k x hk (by rw [List.getElem?_eq_getElem hk, e])
  unfold vlB
  rw [decide_eq_true h1, h2, this]
  rfl
set_option maxRecDepth 100000 in
set_option maxHeartbeats 3200000 in
theorem valid_any (r : Rl) (B : Nat) (w : World) (sa sl : Value) (hB : B ≤ w.heap.size) (hs : r.1.nm.size ≤ maxLen) (ha : SlIn (· < B) w r.1.args sa) (hl : LIn (· < B) w r.2 sl) :
    Calls Tryd.prog 20 #[.agg #[.string r.1.nm, sa, sl]] w fun e w' => e = .returned (.bool (vlB r)) ∧ Gr w w' := by
  obtain ⟨p, c, rfl⟩ := ha.form
  obtain ⟨p', c', rfl, hc, hm, hR⟩ := LIn.row hl
  have V0 := Lib.hid (fun h => vl_long (r := r) h)
  have V1 := Lib.hid (fun h => vl_head (r := r) h)
  have VK := Lib.hid (fun k x hk h => vl_body (r := r) (k := k) (x := x) hk h)
  have VT := Lib.hid (fun h1 h2 h3 => vl_true (r := r) h1 h2 h3)
  have HA := Lib.hid (fun (w' : World) (g : Gr w w') => atom_any r.1 B w' (.slice p r.1.args.length c) (Nat.le_trans hB g.size) hs (ha.gr g hB))
  have AT := Lib.hid (fun (t : Tm) (w' : World) (v : Value) (hw : B ≤ w'.heap.size) (hs : t.nm.size ≤ maxLen) (h : SlIn (· < B) w' t.args v) => atom_any t B w' v hw hs h)
  obtain ⟨t, l⟩ := r
  dsimp only at *
  have HR := Lib.hid hR
  have HB := Lib.hid hB
  have H0 := Lib.hid (Has.new w 27 #[.string t.nm, .slice p t.args.length c, .slice p' l.length c'])
  have G0 := Lib.hid (Gr.alloc w (.cells #[.string t.nm, .slice p t.args.length c, .slice p' l.length c'] 27))
  clear hR ha hl hs hB
  generalize vlB (t, l) = R at *
  generalize atB t = A at *
  generalize hln : l.length = n at *
  have HN := Lib.hid hln
  clear hln
  by_cases h8 : 8 < n
  · have h8' : (8 : Int) < n := by omega
    have R0 := V0.out h8
    subst R0
    go_enter Tryd.func20, Tryd.ntmps20
    go_wp2_with fail
    go_ret
    exact ⟨rfl, G0.out⟩
  · have h8' : ¬ ((8 : Int) < n) := by omega
    go_enter Tryd.func20, Tryd.ntmps20
    go_wp2_with fail
    refine (HA.out _ G0.out).mono ?_
    rintro e w1 ⟨rfl, g1⟩
    have G1 := Lib.hid (G0.out.trans g1)
    have H1 := Lib.hid (H0.out.below g1.1 (by simp))
    obtain ⟨x1, x2, x3⟩ := three H1.out
    clear g1
    cases A
    · have R0 := V1.out rfl
      subst R0
      go_wp2_with fail
      go_ret
      exact ⟨rfl, G1.out⟩
    · go_wp2_with fail
      go_loopw [18] (fun i wL => ∃ k : Nat, k ≤ n ∧ i = .int .i64 k ∧ Hid (Gr w wL) ∧ Hid (∀ j x, j < k → l[j]? = some x → atB x.2 = true)) (fun i _ => n - (intOf i).toNat)
      case atStart => exact ⟨0, by omega, rfl, G1, Lib.hid (fun j x h _ => absurd h (Nat.not_lt_zero j))⟩
      case round =>
        obtain ⟨k, hk, rfl, hG, hA⟩ := hrel
        by_cases hlt : k < n
        · obtain ⟨t2, b, o, q, d, ht, rfl, hb, c1, c2, c3, hs, hts⟩ := (RowL.gr HR.out hG.out HB.out) k (by rw [HN.out]; exact hlt)
          have VF := Lib.hid (VK.out k t2 ht)
          have HT := Lib.hid ht
          have AK := Lib.hid (fun (w' : World) (g : Gr wr w') => AT.out t2.2 w' _ (Nat.le_trans HB.out (Nat.le_trans hG.out.size g.size)) hts (hs.gr g (Nat.le_trans HB.out hG.out.size)))
          have NX : Hid (atB t2.2 = true → ∀ j x, j < k + 1 → l[j]? = some x → atB x.2 = true) := Lib.hid (fun h j x hj hx => by
            by_cases e : j = k
            · subst e
              rw [HT.out] at hx
              cases hx
              exact h
            · exact hA.out j x (by omega) hx)
          clear ht hs hts
          generalize atB t2.2 = A2 at *
          go_wp2_with fail
          refine (AK.out _ (Gr.alloc _ _)).mono ?_
          rintro e w5 ⟨rfl, g5⟩
          have G5 := Lib.hid ((hG.out.trans (Gr.alloc _ _)).trans g5)
          clear g5 c1 c2 c3
          cases A2
          · have R0 := VF.out rfl
            subst R0
            go_wp2_with fail
            go_ret
            exact ⟨rfl, G5.out⟩
          · go_wp2_with fail
            go_roundw
            case rel => exact ⟨k + 1, by omega, by go_num, G5, Lib.hid (NX.out trivial)⟩
            case measure => simp [intOf] <;> omega
        · obtain rfl : k = n := by omega
          have R0 := VT.out (by omega) trivial hA.out
          subst R0
          go_wp2_with fail
          go_ret
          exact ⟨rfl, hG.out⟩
set_option maxRecDepth 100000 in
set_option maxHeartbeats 3200000 in
theorem rvalid_any (r : Rl) (B : Nat) (w : World) (sa sl : Value) (hB : B ≤ w.heap.size) (hs : r.1.nm.size ≤ maxLen) (ha : SlIn (· < B) w r.1.args sa) (hl : LIn (· < B) w r.2 sl) :
    Calls Tryd.prog 21 #[.agg #[.string r.1.nm, sa, sl]] w fun e w' => e = .returned (.bool (vlB r)) ∧ Gr w w' := by
  obtain ⟨p, c, rfl⟩ := ha.form
  obtain ⟨p', c', rfl, hc, hm, hR⟩ := LIn.row hl
  have V0 := Lib.hid (fun h => vl_long (r := r) h)
  have V1 := Lib.hid (fun h => vl_head (r := r) h)
  have VK := Lib.hid (fun k x hk h => vl_body (r := r) (k := k) (x := x) hk h)
  have VT := Lib.hid (fun h1 h2 h3 => vl_true (r := r) h1 h2 h3)
  have HA := Lib.hid (fun (w' : World) (g : Gr w w') => ratom_any r.1 B w' (.slice p r.1.args.length c) (Nat.le_trans hB g.size) hs (ha.gr g hB))
  have AT := Lib.hid (fun (t : Tm) (w' : World) (v : Value) (hw : B ≤ w'.heap.size) (hs : t.nm.size ≤ maxLen) (h : SlIn (· < B) w' t.args v) => ratom_any t B w' v hw hs h)
  obtain ⟨t, l⟩ := r
  dsimp only at *
  have HR := Lib.hid hR
  have HB := Lib.hid hB
  have H0 := Lib.hid (Has.new w 27 #[.string t.nm, .slice p t.args.length c, .slice p' l.length c'])
  have G0 := Lib.hid (Gr.alloc w (.cells #[.string t.nm, .slice p t.args.length c, .slice p' l.length c'] 27))
  clear hR ha hl hs hB
  generalize vlB (t, l) = R at *
  generalize atB t = A at *
  generalize hln : l.length = n at *
  have HN := Lib.hid hln
  clear hln
  have HX := Lib.hid (fun (w' : World) (g : Gr (w.alloc (.cells #[.string t.nm, .slice p t.args.length c, .slice p' n c'] 27)) w') => H0.out.below g.1 (by simp))
  go_enter Tryd.func21, Tryd.ntmps21
  go_wp2_with fail
  refine (HA.out _ G0.out).mono ?_
  rintro e w1 ⟨rfl, g1⟩
  have G1 := Lib.hid (G0.out.trans g1)
  have B1 := Lib.hid g1
  obtain ⟨x1, x2, x3⟩ := three (HX.out _ g1)
  clear g1
  cases A
  · have R0 := V1.out rfl
    subst R0
    go_wp2_with fail
    go_ret
    exact ⟨rfl, G1.out⟩
  · by_cases h8 : 8 < n
    · have h8' : (8 : Int) < n := by omega
      have R0 := V0.out h8
      subst R0
      go_wp2_with fail
      go_ret
      exact ⟨rfl, G1.out⟩
    · have h8' : ¬ ((8 : Int) < n) := by omega
      go_wp2_with fail
      go_loopw [3] (fun i wL => ∃ k : Nat, k ≤ n ∧ i = .int .i64 k ∧ Hid (Gr w wL) ∧ Hid (Gr (w.alloc (.cells #[.string t.nm, .slice p t.args.length c, .slice p' n c'] 27)) wL) ∧ Hid (∀ j x, j < k → l[j]? = some x → atB x.2 = true)) (fun i _ => n - (intOf i).toNat)
      case atStart => exact ⟨0, by omega, rfl, G1, B1, Lib.hid (fun j x h _ => absurd h (Nat.not_lt_zero j))⟩
      case round =>
        obtain ⟨k, hk, rfl, hG, hB2, hA⟩ := hrel
        obtain ⟨y1, y2, y3⟩ := three (HX.out _ hB2.out)
        by_cases hlt : k < n
        · obtain ⟨t2, b, o, q, d, ht, rfl, hb, c1, c2, c3, hs, hts⟩ := (RowL.gr HR.out hG.out HB.out) k (by rw [HN.out]; exact hlt)
          have VF := Lib.hid (VK.out k t2 ht)
          have HT := Lib.hid ht
          have AK := Lib.hid (AT.out t2.2 wr _ (Nat.le_trans HB.out hG.out.size) hts hs)
          have NX : Hid (atB t2.2 = true → ∀ j x, j < k + 1 → l[j]? = some x → atB x.2 = true) := Lib.hid (fun h j x hj hx => by
            by_cases e : j = k
            · subst e
              rw [HT.out] at hx
              cases hx
              exact h
            · exact hA.out j x (by omega) hx)
          clear ht hs hts
          generalize atB t2.2 = A2 at *
          go_wp2_with fail
          refine AK.out.mono ?_
          rintro e w5 ⟨rfl, g5⟩
          have G5 := Lib.hid (hG.out.trans g5)
          have B5 := Lib.hid (hB2.out.trans g5)
          clear g5 c1 c2 c3
          cases A2
          · have R0 := VF.out rfl
            subst R0
            go_wp2_with fail
            go_ret
            exact ⟨rfl, G5.out⟩
          · go_wp2_with fail
            go_roundw
            case rel => exact ⟨k + 1, by omega, by go_num, G5, B5, Lib.hid (NX.out trivial)⟩
            case measure => simp [intOf] <;> omega
        · obtain rfl : k = n := by omega
          have R0 := VT.out (by omega) trivial hA.out
          subst R0
          go_wp2_with fail
          go_ret
          exact ⟨rfl, hG.out⟩
end PriD
end Go.Proofs.YtfdpelokiljigaaDoor
/- The code's line, and join at rules. Conditions: a valid rule's texts have at most 10^8 bytes, in all at most 2^47. -/
namespace Go.Proofs.YtfdpelokiljigaaDoor
open Go Go.RowKit
namespace PriG
open LexM TermM TermI Kit TermN TermU TermT ParM ParK ParP ParQ PriM PriJ PriA PriB PriC PriD
/-- What line panics with. -/
abbrev PX : List PanicEntry := [{ v := .iface 38 (.int .i64 13), recovered := false }]
theorem _root_.Go.Proofs.YtfdpelokiljigaaDoor.ParQ.RowR.deep {B B' : Nat} {w w' : World} {l : List Rl} {p : Option Addr} (h : RowR B w l p) (g : Below B' w w') (hB : B ≤ B') : RowR B w' l p := fun k hk => by
  obtain ⟨t, b, o, q, d, u, e, h1, h2, h3, h4, h5, h6, h7, h8, h9⟩ := h k hk
  have hc : ∀ j, w'.cell? ⟨b, j, none⟩ = w.cell? ⟨b, j, none⟩ := fun j => g.cell (p := ⟨b, j, none⟩) (Nat.lt_of_lt_of_le h3 hB)
  exact ⟨t, b, o, q, d, u, e, h1, h2, h3, (hc _).trans h4, (hc _).trans h5, (hc _).trans h6, h7.deep g hB, h8.keep (fun b o hlt => g.cell (p := ⟨b, o, none⟩) (Nat.lt_of_lt_of_le hlt hB)), h9⟩
theorem bs_line (r : Rl) : bs (ruleX r) ++ ⟨#[10]⟩ = bs (lineX r) := by
  rw [show (⟨#[10]⟩ : ByteArray) = bs [10] from rfl, bs_app]
  rfl
theorem rule_len {r : Rl} (h : Sm r) : (ruleX r).length ≤ 140737588355333 := by
  obtain ⟨h1, _, _, h4⟩ := h
  unfold ruleX
  rw [List.length_append, List.length_append]
  split
  · simp; omega
  · rw [List.length_append]; simp only [List.length_cons, List.length_nil]; omega
set_option maxRecDepth 100000 in
set_option maxHeartbeats 3200000 in
theorem line_ok (r : Rl) (B : Nat) (w : World) (sa sl : Value) (hw : Wd w) (hB : B ≤ w.heap.size) (hs : r.1.nm.size ≤ maxLen) (ha : SlIn (· < B) w r.1.args sa) (hl : LIn (· < B) w r.2 sl) (hv : vlB r = true) (hz : Sm r) :
    Calls Tryd.prog 54 #[.agg #[.string r.1.nm, sa, sl]] w fun e w' => e = .returned (.string (bs (lineX r))) ∧ Below w.heap.size w w' := by
  obtain ⟨p, c, rfl⟩ := ha.form
  obtain ⟨p', c', rfl⟩ := hl.form
  obtain ⟨W1, hW1⟩ : ∃ W1, W1 = w.alloc (.cells #[.string r.1.nm, .slice p r.1.args.length c, .slice p' r.2.length c'] 27) := ⟨_, rfl⟩
  have G0 := Lib.hid (show Gr w W1 by rw [hW1]; exact Gr.alloc w _)
  have H0 := Lib.hid (show Has W1 w.heap.size #[.string r.1.nm, .slice p r.1.args.length c, .slice p' r.2.length c'] by rw [hW1]; exact Has.new _ _ _)
  have HV := Lib.hid (PriD.valid_any r B W1 (.slice p r.1.args.length c) (.slice p' r.2.length c') (Nat.le_trans hB G0.out.size) hs (ha.gr G0.out hB) (hl.gr G0.out hB))
  rw [hv] at HV
  have HU := Lib.hid (fun (w2 : World) (g : Gr w w2) => rule_any r B w2 (.slice p r.1.args.length c) (.slice p' r.2.length c') (hw.below g.1 hw.1) (Nat.le_trans hB g.size) (ha.gr g hB) (hl.gr g hB) hz)
  have X1 := bs_line r
  have p1 := fun w' => run_string_add_sum (P := Tryd.prog) w' (bs (ruleX r)) ⟨#[10]⟩ (by rw [bs_size]; have := rule_len hz; show _ + 1 ≤ _; omega)
  rw [X1] at p1
  clear ha hl hw hs hv hz X1 hB
  generalize bs (lineX r) = L at *
  generalize bs (ruleX r) = R at *
  obtain ⟨t, l⟩ := r
  dsimp only at *
  generalize t.nm = tn at *
  generalize t.args.length = tl at *
  generalize l.length = ll at *
  go_enter Tryd.func54, Tryd.ntmps54
  go_upto_region 1 with fail
  rw [← hW1]
  clear hW1
  obtain ⟨x1, x2, x3⟩ := three H0.out
  go_wp2_with fail
  refine HV.out.mono ?_
  rintro e w2 ⟨rfl, g2⟩
  have G2 := Lib.hid (G0.out.trans g2)
  obtain ⟨y1, y2, y3⟩ := three (H0.out.below g2.1 H0.out.lt)
  have K2 := Lib.hid (HU.out w2 G2.out)
  clear g2 HU HV x1 x2 x3
  go_wp2_with fail
  refine K2.out.mono ?_
  rintro e w3 ⟨rfl, hd⟩
  have D3 := Lib.hid (G2.out.1.trans (hd.mono G2.out.size))
  clear hd
  go_wp2_with fail
  go_ret
  exact ⟨rfl, D3.out⟩
set_option maxRecDepth 100000 in
set_option maxHeartbeats 3200000 in
theorem line_bad (r : Rl) (B : Nat) (w : World) (sa sl : Value) (hB : B ≤ w.heap.size) (hs : r.1.nm.size ≤ maxLen) (ha : SlIn (· < B) w r.1.args sa) (hl : LIn (· < B) w r.2 sl) (hv : vlB r = false) :
    Calls Tryd.prog 54 #[.agg #[.string r.1.nm, sa, sl]] w fun e w' => e = .panicked PX ∧ Below w.heap.size w w' := by
  obtain ⟨p, c, rfl⟩ := ha.form
  obtain ⟨p', c', rfl⟩ := hl.form
  obtain ⟨W1, hW1⟩ : ∃ W1, W1 = w.alloc (.cells #[.string r.1.nm, .slice p r.1.args.length c, .slice p' r.2.length c'] 27) := ⟨_, rfl⟩
  have G0 := Lib.hid (show Gr w W1 by rw [hW1]; exact Gr.alloc w _)
  have H0 := Lib.hid (show Has W1 w.heap.size #[.string r.1.nm, .slice p r.1.args.length c, .slice p' r.2.length c'] by rw [hW1]; exact Has.new _ _ _)
  have HV := Lib.hid (PriD.valid_any r B W1 (.slice p r.1.args.length c) (.slice p' r.2.length c') (Nat.le_trans hB G0.out.size) hs (ha.gr G0.out hB) (hl.gr G0.out hB))
  rw [hv] at HV
  clear ha hl hs hv hB
  obtain ⟨t, l⟩ := r
  dsimp only at *
  generalize t.nm = tn at *
  generalize t.args.length = tl at *
  generalize l.length = ll at *
  go_enter Tryd.func54, Tryd.ntmps54
  go_upto_region 1 with fail
  rw [← hW1]
  clear hW1
  obtain ⟨x1, x2, x3⟩ := three H0.out
  go_wp2_with fail
  refine HV.out.mono ?_
  rintro e w2 ⟨rfl, g2⟩
  have G2 := (G0.out.trans g2).1
  clear g2 HV x1 x2 x3
  go_wp2_with fail
  exact ⟨rfl, rfl, G2⟩
set_option maxRecDepth 100000 in
set_option maxHeartbeats 6400000 in
theorem jlines_ok (l : List Rl) (B : Nat) (w : World) (sv : Value) (sep : ByteArray) (hw : Wd w) (hB : B ≤ w.heap.size) (h : RIn (· < B) w l sv) (hn : l.length ≤ 1000000) (hv : ∀ r ∈ l, vlB r = true) (ht : ∀ r ∈ l, Sm r)
    (hz : (Lib.join (l.map lineX) sep.data.toList).length ≤ 140737488355328) :
    Calls Tryd.prog 53 #[sv, .string sep, .func (.func 54) #[] #[]] w fun e w' => e = .returned (.string (bs (Lib.join (l.map lineX) sep.data.toList))) ∧ Below w.heap.size w w' := by
  obtain ⟨p, c, rfl, hc, hm, hR⟩ := RIn.row h
  have HR := Lib.hid hR
  have HW := Lib.hid hw
  have HB := Lib.hid hB
  have hg1 := hw.1
  obtain ⟨wm, M, O, G⟩ := make_any w (l.map lineX) l.length (by simp) hn
  have O0 := Lib.hid O
  have B0 := Lib.hid ((Below.refl w.heap.size w).grown G (Nat.le_refl _) (fun k h => by cases h))
  have RG := Lib.hid (fun k (h : k < l.length) => srow_get (X := l.map lineX) (k := k) (by simpa using h))
  have RS := Lib.hid (fun k x (h : (l.map lineX)[k]? = some x) => srow_set h)
  have JN := Lib.hid (fun (w' : World) (ho : w'.ownsRow w.heap.size 9 1 (.slice (some ⟨w.heap.size, 0, none⟩) l.length l.length) l.length (srow (l.map lineX) l.length)) => join_row (l.map lineX) l.length w.heap.size w.heap.size sep w' (by simp) hn ho hz)
  have TX := Lib.hid (fun k r (h : l[k]? = some r) (w' : World) (sa sl : Value) (hw : Wd w') (hb : B ≤ w'.heap.size) (hs : r.1.nm.size ≤ maxLen) (h1 : SlIn (· < B) w' r.1.args sa) (h2 : LIn (· < B) w' r.2 sl) => line_ok r B w' sa sl hw hb hs h1 h2 (hv r (List.mem_of_getElem? h)) (ht r (List.mem_of_getElem? h)))
  have GB : w.heap.size < wm.heap.size := by
    have := World.ownsRow.lt O0.out w.heap.size rfl
    omega
  have LT := Lib.hid (fun k t (h : l[k]? = some t) => show (l.map lineX)[k]? = some (lineX t) by rw [List.getElem?_map, h]; rfl)
  generalize Lib.join (l.map lineX) sep.data.toList = J at *
  have SZ := Lib.hid (Nat.le_refl w.heap.size)
  clear O G hw hB hR h ht hv hz
  generalize l.map lineX = X at *
  generalize hlm : l.length = m at *
  have HM := Lib.hid hlm
  clear hlm
  generalize hg0 : w.heap.size = g0 at *
  go_enter Tryd.func53, Tryd.ntmps53
  go_wp2_with fail
  go_loopw [15] (fun i wL => ∃ k : Nat, k ≤ m ∧ i = .int .i64 k ∧ Hid (wL.ownsRow g0 9 1 (.slice (some ⟨g0, 0, none⟩) m m) m (srow X k)) ∧ Hid (Below g0 w wL)) (fun i _ => m - (intOf i).toNat)
  case atStart => exact ⟨0, by omega, rfl, O0, B0⟩
  case round =>
    obtain ⟨k, hk, rfl, hO, hD⟩ := hrel
    by_cases hlt : k < m
    · obtain ⟨t, b, o, q, d, u, f, ht, rfl, hb, c1, c2, c3, hs, hu, hts⟩ := (RowR.deep HR.out hD.out HB.out) k (by rw [HM.out]; exact hlt)
      have x1 := (hO.out.cellAt k (by omega)).trans (RG.out k hlt)
      have x2 := hO.out.frozenAt k
      have T1 := Lib.hid (TX.out k t ht)
      have S1 : Hid ((srow X k).set k (.string (bs (lineX t))) = srow X (k + 1)) := Lib.hid (RS.out k _ (LT.out k t ht))
      have hsz := hD.out.size
      have gl := (World.ownsRow.lt hO.out g0 rfl).2
      have HS := Lib.hid hs
      have HU := Lib.hid hu
      have HTS := Lib.hid hts
      clear ht hs hu hts
      go_wp2_with fail
      refine (T1.out _ _ _ (HW.out.below (hD.out.alloc (by omega) _) hg1) (by have := HB.out; simp; omega) HTS.out (HS.out.gr (Gr.alloc _ _) (by have := HB.out; omega)) (HU.out.gr (Gr.alloc _ _) (by have := HB.out; omega))).mono ?_
      rintro e w5 ⟨rfl, hd5⟩
      have O5 := Lib.hid (own_below (hO.out.alloc _) hd5 (fun g h => by cases h; simp; omega))
      have D5 := Lib.hid ((hD.out.alloc (by omega) _).trans (hd5.mono (by simp; omega)))
      have y1 := (O5.out.cellAt k (by omega)).trans (RG.out k hlt)
      have y2 := O5.out.frozenAt k
      have ST := Lib.hid (O5.out.stored k (.string (bs (lineX t))))
      have hsz5 := D5.out.size
      clear hd5 x1 x2 c1 c2 c3
      generalize lineX t = xt at *
      go_wp2_with fail
      go_roundw
      case rel =>
        refine ⟨k + 1, by omega, by go_num, ?_, ?_⟩
        · have h := ST.out.1
          rw [S1.out] at h
          exact Lib.hid h
        · exact Lib.hid (D5.out.grown ST.out.2 (by omega) (fun k h => by cases h; exact Nat.le_refl _))
      case measure => simp [intOf] <;> omega
    · obtain rfl : k = m := by omega
      have J1 := Lib.hid (JN.out wr hO.out)
      go_wp2_with fail
      refine J1.out.mono ?_
      rintro e w5 ⟨rfl, hd5⟩
      have D5 := Lib.hid (hD.out.trans (hd5.mono (by have := hD.out.size; omega)))
      clear hd5
      go_wp2_with fail
      go_ret
      exact ⟨rfl, D5.out⟩
end PriG
end Go.Proofs.YtfdpelokiljigaaDoor
/- The code's lines: join at rules of which one is not printable, and the deferred closure. Conditions: a valid rule's texts have at most 10^8 bytes, in all at most 2^47. -/
namespace Go.Proofs.YtfdpelokiljigaaDoor
open Go Go.RowKit
namespace PriH
open LexM TermM TermI Kit TermN TermU TermT ParM ParK ParP ParQ PriM PriJ PriA PriB PriC PriD PriG
set_option maxRecDepth 100000 in
set_option maxHeartbeats 6400000 in
theorem jlines_bad (l : List Rl) (B : Nat) (w : World) (sv : Value) (sep : ByteArray) (hw : Wd w) (hB : B ≤ w.heap.size) (h : RIn (· < B) w l sv) (hn : l.length ≤ 1000000) (ht : ∀ r ∈ l, vlB r = true → Sm r) (hbad : l.all vlB = false) :
    Calls Tryd.prog 53 #[sv, .string sep, .func (.func 54) #[] #[]] w fun e w' => e = .panicked PX ∧ Below w.heap.size w w' := by
  obtain ⟨p, c, rfl, hc, hm, hR⟩ := RIn.row h
  have HR := Lib.hid hR
  have HW := Lib.hid hw
  have HB := Lib.hid hB
  have hg1 := hw.1
  obtain ⟨wm, M, O, G⟩ := make_any w (l.map lineX) l.length (by simp) hn
  have O0 := Lib.hid O
  have B0 := Lib.hid ((Below.refl w.heap.size w).grown G (Nat.le_refl _) (fun k h => by cases h))
  have RG := Lib.hid (fun k (h : k < l.length) => srow_get (X := l.map lineX) (k := k) (by simpa using h))
  have RS := Lib.hid (fun k x (h : (l.map lineX)[k]? = some x) => srow_set h)
  have TX := Lib.hid (fun k r (h : l[k]? = some r) (hv : vlB r = true) (w' : World) (sa sl : Value) (hw : Wd w') (hb : B ≤ w'.heap.size) (hs : r.1.nm.size ≤ maxLen) (h1 : SlIn (· < B) w' r.1.args sa) (h2 : LIn (· < B) w' r.2 sl) => line_ok r B w' sa sl hw hb hs h1 h2 hv (ht r (List.mem_of_getElem? h) hv))
  have TY := Lib.hid (fun r (hv : vlB r = false) (w' : World) (sa sl : Value) (hb : B ≤ w'.heap.size) (hs : r.1.nm.size ≤ maxLen) (h1 : SlIn (· < B) w' r.1.args sa) (h2 : LIn (· < B) w' r.2 sl) => line_bad r B w' sa sl hb hs h1 h2 hv)
  have NO : Hid ((∀ j x, j < l.length → l[j]? = some x → vlB x = true) → False) := Lib.hid (fun h => by
    have : l.all vlB = true := by
      rw [List.all_eq_true]
      intro x hx
      obtain ⟨k, hk, e⟩ := List.getElem_of_mem hx
      exact h k x hk (by rw [List.getElem?_eq_getElem hk, e])
    rw [hbad] at this
    cases this)
  have GB : w.heap.size < wm.heap.size := by
    have := World.ownsRow.lt O0.out w.heap.size rfl
    omega
  have LT := Lib.hid (fun k t (h : l[k]? = some t) => show (l.map lineX)[k]? = some (lineX t) by rw [List.getElem?_map, h]; rfl)
  have SZ := Lib.hid (Nat.le_refl w.heap.size)
  clear O G hw hB hR h ht hbad
  generalize l.map lineX = X at *
  generalize hlm : l.length = m at *
  have HM := Lib.hid hlm
  clear hlm
  generalize hg0 : w.heap.size = g0 at *
  go_enter Tryd.func53, Tryd.ntmps53
  go_wp2_with fail
  go_loopw [15] (fun i wL => ∃ k : Nat, k ≤ m ∧ i = .int .i64 k ∧ Hid (wL.ownsRow g0 9 1 (.slice (some ⟨g0, 0, none⟩) m m) m (srow X k)) ∧ Hid (Below g0 w wL) ∧ Hid (∀ j x, j < k → l[j]? = some x → vlB x = true)) (fun i _ => m - (intOf i).toNat)
  case atStart => exact ⟨0, by omega, rfl, O0, B0, Lib.hid (fun j x h _ => absurd h (Nat.not_lt_zero j))⟩
  case round =>
    obtain ⟨k, hk, rfl, hO, hD, hA⟩ := hrel
    by_cases hlt : k < m
    · obtain ⟨t, b, o, q, d, u, f, ht, rfl, hb, c1, c2, c3, hs, hu, hts⟩ := (RowR.deep HR.out hD.out HB.out) k (by rw [HM.out]; exact hlt)
      have x1 := (hO.out.cellAt k (by omega)).trans (RG.out k hlt)
      have x2 := hO.out.frozenAt k
      have NX : Hid (vlB t = true → ∀ j x, j < k + 1 → l[j]? = some x → vlB x = true) := Lib.hid (fun h j x hj hx => by
        by_cases e : j = k
        · subst e
          rw [ht] at hx
          cases hx
          exact h
        · exact hA.out j x (by omega) hx)
      by_cases hv : vlB t = true
      · have T1 := Lib.hid (TX.out k t ht hv)
        have S1 : Hid ((srow X k).set k (.string (bs (lineX t))) = srow X (k + 1)) := Lib.hid (RS.out k _ (LT.out k t ht))
        have hsz := hD.out.size
        have gl := (World.ownsRow.lt hO.out g0 rfl).2
        have HS := Lib.hid hs
        have NX2 := Lib.hid (NX.out hv)
        have HU := Lib.hid hu
        have HTS := Lib.hid hts
        clear ht hs hu hts NX
        go_wp2_with fail
        refine (T1.out _ _ _ (HW.out.below (hD.out.alloc (by omega) _) hg1) (by have := HB.out; simp; omega) HTS.out (HS.out.gr (Gr.alloc _ _) (by have := HB.out; omega)) (HU.out.gr (Gr.alloc _ _) (by have := HB.out; omega))).mono ?_
        rintro e w5 ⟨rfl, hd5⟩
        have O5 := Lib.hid (own_below (hO.out.alloc _) hd5 (fun g h => by cases h; simp; omega))
        have D5 := Lib.hid ((hD.out.alloc (by omega) _).trans (hd5.mono (by simp; omega)))
        have y1 := (O5.out.cellAt k (by omega)).trans (RG.out k hlt)
        have y2 := O5.out.frozenAt k
        have ST := Lib.hid (O5.out.stored k (.string (bs (lineX t))))
        have hsz5 := D5.out.size
        clear hd5 x1 x2 c1 c2 c3
        generalize lineX t = xt at *
        go_wp2_with fail
        go_roundw
        case rel =>
          refine ⟨k + 1, by omega, by go_num, ?_, ?_, NX2⟩
          · have h := ST.out.1
            rw [S1.out] at h
            exact Lib.hid h
          · exact Lib.hid (D5.out.grown ST.out.2 (by omega) (fun k h => by cases h; exact Nat.le_refl _))
        case measure => simp [intOf] <;> omega
      · have T1 := Lib.hid (TY.out t (by simpa using hv))
        have hsz := hD.out.size
        have HS := Lib.hid hs
        have HU := Lib.hid hu
        have HTS := Lib.hid hts
        clear ht hs hu hts NX hv
        go_wp2_with fail
        refine (T1.out _ _ _ (by have := HB.out; simp; omega) HTS.out (HS.out.gr (Gr.alloc _ _) (by have := HB.out; omega)) (HU.out.gr (Gr.alloc _ _) (by have := HB.out; omega))).mono ?_
        rintro e w5 ⟨rfl, hd5⟩
        have D5 := Lib.hid ((hD.out.alloc (by omega) _).trans (hd5.mono (by simp; omega)))
        clear hd5 x1 x2 c1 c2 c3
        go_wp2_with fail
        exact ⟨rfl, rfl, D5.out⟩
    · obtain rfl : k = m := by omega
      exact (NO.out (fun j x hj hx => hA.out j x (by have := HM.out; omega) hx)).elim
theorem catch_ln (ge : Nat) (e0 : Value) (w : World) (he : Has w ge #[e0]) :
    CallsD Tryd.prog 52 #[.pointer (some ⟨ge, 0, none⟩)] (.panicking PX) w fun e u' w' =>
      e = .returned (.tuple #[]) ∧ u' = .panicking [{ v := .iface 38 (.int .i64 13), recovered := true }] ∧ w' = w.setCell ⟨ge, 0, none⟩ (.int .i64 13) := by
  have y1 := he.cell 0
  have y2 := he.free 0
  have z2 := he.lt
  refine callsD_of_wpS Tryd.func52 rfl fun c₀ cs hu => ?_
  have e : ((#[.pointer (some ⟨ge, 0, none⟩)] : Array Value) ++ Array.replicate (Tryd.f52.ntmps - (#[.pointer (some ⟨ge, 0, none⟩)] : Array Value).size) undef) = #[.pointer (some ⟨ge, 0, none⟩), undef, undef] := by kernel_rfl
  rw [e]
  clear e
  apply wpS_seq
  apply wpS_region
  generalize hQ : Exit.thenS _ _ = Q
  have hrec : recoverD (c₀ :: cs) = some (.iface 38 (.int .i64 13), { c₀ with mode := .panicking [{ v := .iface 38 (.int .i64 13), recovered := true }] } :: cs) := by
    simp [recoverD, hu]
  generalize c₀ :: cs = CS at *
  simp [wpOpsS, go_sem, hrec]
  rw [← hQ]
  simp only [Exit.thenS]
  clear hQ hrec
  refine wpS_cond (t := true) (by simp [Act.eval]) ?_
  simp only [if_true]
  refine wpS_of_wp ?_
  simp only [List.getElem?_toArray, List.getElem?_cons_zero] at y1
  go_wp2_with fail
  exact ⟨rfl, _, rfl, .tuple #[], by simp [results, Tryd.results52, go_sem], rfl, rfl, rfl⟩
theorem idle_ln (ge : Nat) (w : World) :
    CallsD Tryd.prog 52 #[.pointer (some ⟨ge, 0, none⟩)] .returning w fun e u' w' =>
      e = .returned (.tuple #[]) ∧ u' = .returning ∧ w' = w := by
  refine callsD_of_wpS Tryd.func52 rfl fun c₀ cs hu => ?_
  have e : ((#[.pointer (some ⟨ge, 0, none⟩)] : Array Value) ++ Array.replicate (Tryd.f52.ntmps - (#[.pointer (some ⟨ge, 0, none⟩)] : Array Value).size) undef) = #[.pointer (some ⟨ge, 0, none⟩), undef, undef] := by kernel_rfl
  rw [e]
  clear e
  apply wpS_seq
  apply wpS_region
  generalize hQ : Exit.thenS _ _ = Q
  have hrec : recoverD (c₀ :: cs) = none := by
    simp [recoverD, hu]
  have hcs : c₀ :: cs = { c₀ with mode := .returning } :: cs := by rw [← hu]
  generalize c₀ :: cs = CS at *
  simp [wpOpsS, go_sem, hrec]
  rw [← hQ]
  simp only [Exit.thenS]
  clear hQ hrec
  refine wpS_cond (t := false) (by simp [Act.eval]) ?_
  simp only [Bool.false_eq_true, if_false]
  refine wpS_of_wp (wp_skip ?_)
  exact ⟨rfl, _, hcs, .tuple #[], by simp [results, Tryd.results52, go_sem], rfl, rfl, rfl⟩
end PriH
end Go.Proofs.YtfdpelokiljigaaDoor
/- The code's lines. Conditions: a valid rule's texts have at most 10^8 bytes, in all at most 2^47. -/
namespace Go.Proofs.YtfdpelokiljigaaDoor
open Go Go.RowKit
namespace PriI
open LexM TermM TermI Kit TermN TermU TermT ParM ParK ParP ParQ PriM PriJ PriA PriB PriC PriD PriG PriH
set_option maxRecDepth 100000 in
set_option maxHeartbeats 3200000 in
theorem lines_ok (l : List Rl) (B : Nat) (w : World) (sv : Value) (hw : Wd w) (hB : B ≤ w.heap.size) (h : RIn (· < B) w l sv) (hn : l.length ≤ 1000000) (hv : ∀ r ∈ l, vlB r = true) (ht : ∀ r ∈ l, Sm r) (hz : (descX l).length ≤ 140737488355328) :
    Calls Tryd.prog 38 #[sv] w fun e w' => e = .returned (.tuple #[.string (bs (descX l)), .int .i64 0]) ∧ Below w.heap.size w w' := by
  have hmf : ∀ (fn : Fn) (first cap : Array Value) (w : World), (Instr.makeFunc fn first cap).run Tryd.prog w = .ok (.func fn first cap) w := fun _ _ _ _ => rfl
  obtain ⟨W1, hW1⟩ : ∃ W1, W1 = w.alloc (.cells #[.int .i64 0] 38) := ⟨_, rfl⟩
  have G1 : Below w.heap.size w W1 := by rw [hW1]; exact below_alloc w _
  have HE : Has W1 w.heap.size #[.int .i64 0] := by rw [hW1]; exact Has.new w _ _
  have K : Hid (Calls Tryd.prog 53 #[sv, .string ⟨#[]⟩, .func (.func 54) #[] #[]] W1 fun e w' => e = .returned (.string (bs (descX l))) ∧ Below W1.heap.size W1 w') :=
    Lib.hid (jlines_ok l B W1 sv ⟨#[]⟩ (hw.below G1 hw.1) (Nat.le_trans hB G1.size) (h.keep (fun b o hlt => G1.cell (p := ⟨b, o, none⟩) (by show b < _; omega))) hn hv ht hz)
  have GE := Lib.hid HE
  have GG := Lib.hid G1
  obtain ⟨p, c, rfl⟩ := h.form
  generalize bs (descX l) = S at *
  generalize l.length = n at *
  clear h hv ht hz HE G1 hw hB
  go_enter_defers Tryd.func38, Tryd.ntmps38
  go_upto_region 1 with fail
  rw [← hW1]
  clear hW1
  go_wp2_with fail
  refine K.out.mono ?_
  rintro e w2 ⟨rfl, k⟩
  have E2 := GE.out.step0 k
  have G2 := Lib.hid (GG.out.trans (k.mono GG.out.size))
  clear k
  have z1 := E2.cell 0
  have z2 := E2.free 0
  have z3 := E2.lt
  simp only [List.getElem?_toArray, List.getElem?_cons_zero] at z1
  have EE := Lib.hid E2
  clear E2
  go_wp2_with fail
  obtain ⟨W3, hW3⟩ : ∃ W3, W3 = w2.setCell ⟨w.heap.size, 0, none⟩ (.int .i64 0) := ⟨_, rfl⟩
  have E3 : Has W3 w.heap.size #[.int .i64 0] := by rw [hW3]; exact EE.out.set 0 _
  have G3 : Below w.heap.size w W3 := by rw [hW3]; exact G2.out.setCell (by show w.heap.size ≤ w.heap.size; omega) _
  rw [← hW3]
  clear hW3
  refine leaves_cons (f := 52) (args := #[.pointer (some ⟨w.heap.size, 0, none⟩)]) (by simp) (by simp [go_sem]) ?_
  refine (idle_ln w.heap.size W3).mono ?_
  rintro e u' wz ⟨rfl, rfl, rfl⟩
  have r1 := E3.cell 0
  simp only [List.getElem?_toArray, List.getElem?_cons_zero] at r1
  show ∃ v, (results _ _).run _ wz = .ok v wz ∧ _
  exact ⟨.tuple #[.string S, .int .i64 0], by simp [results, Tryd.results38, go_sem, r1], rfl, G3⟩
set_option maxRecDepth 100000 in
set_option maxHeartbeats 3200000 in
theorem lines_bad (l : List Rl) (B : Nat) (w : World) (sv : Value) (hw : Wd w) (hB : B ≤ w.heap.size) (h : RIn (· < B) w l sv) (hn : l.length ≤ 1000000) (ht : ∀ r ∈ l, vlB r = true → Sm r) (hbad : l.all vlB = false) :
    Calls Tryd.prog 38 #[sv] w fun e w' => e = .returned (.tuple #[.string ⟨#[]⟩, .int .i64 13]) ∧ Below w.heap.size w w' := by
  have hmf : ∀ (fn : Fn) (first cap : Array Value) (w : World), (Instr.makeFunc fn first cap).run Tryd.prog w = .ok (.func fn first cap) w := fun _ _ _ _ => rfl
  obtain ⟨W1, hW1⟩ : ∃ W1, W1 = w.alloc (.cells #[.int .i64 0] 38) := ⟨_, rfl⟩
  have G1 : Below w.heap.size w W1 := by rw [hW1]; exact below_alloc w _
  have HE : Has W1 w.heap.size #[.int .i64 0] := by rw [hW1]; exact Has.new w _ _
  have K : Hid (Calls Tryd.prog 53 #[sv, .string ⟨#[]⟩, .func (.func 54) #[] #[]] W1 fun e w' => e = .panicked PX ∧ Below W1.heap.size W1 w') :=
    Lib.hid (jlines_bad l B W1 sv ⟨#[]⟩ (hw.below G1 hw.1) (Nat.le_trans hB G1.size) (h.keep (fun b o hlt => G1.cell (p := ⟨b, o, none⟩) (by show b < _; omega))) hn ht hbad)
  have GE := Lib.hid HE
  have GG := Lib.hid G1
  obtain ⟨p, c, rfl⟩ := h.form
  generalize l.length = n at *
  clear h ht hbad HE G1 hw hB
  go_enter_defers Tryd.func38, Tryd.ntmps38
  go_upto_region 1 with fail
  rw [← hW1]
  clear hW1
  go_wp2_with fail
  refine K.out.mono ?_
  rintro e w2 ⟨rfl, k⟩
  have E2 := GE.out.step0 k
  have G2 := Lib.hid (GG.out.trans (k.mono GG.out.size))
  clear k
  go_wp2_with fail
  refine leaves_cons (f := 52) (args := #[.pointer (some ⟨w.heap.size, 0, none⟩)]) (by simp) (by simp [go_sem]) ?_
  refine (catch_ln w.heap.size _ w2 E2).mono ?_
  rintro e u' wz ⟨rfl, rfl, rfl⟩
  have r1 := (E2.set 0 (.int .i64 13)).cell 0
  have G3 := G2.out.setCell (p := ⟨w.heap.size, 0, none⟩) (by show w.heap.size ≤ w.heap.size; omega) (.int .i64 13)
  generalize w2.setCell ⟨w.heap.size, 0, none⟩ (.int .i64 13) = wz at *
  simp at r1
  show ∃ v, (results _ _).run _ wz = .ok v wz ∧ _
  exact ⟨.tuple #[.string ⟨#[]⟩, .int .i64 13], by simp [results, Tryd.results38, go_sem, r1], rfl, G3⟩
end PriI
end Go.Proofs.YtfdpelokiljigaaDoor
