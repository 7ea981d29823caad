/- The code's Compare answers by the order of terms. -/
import Derived.Test.YtihbnonbhelbmaaGreatDoorTermQ
namespace Go.Proofs.YtihbnonbhelbmaaGreatDoor
open Go Go.RowKit
namespace TermR
open LexM TermM TermI Kit TermN TermA TermB TermC TermD TermV TermO TermP TermQ
theorem cls_num {n : ByteArray} {e : Bool} (h : cls n e = 0) : numV n.data.toList = valL n.data.toList := by
  unfold numV
  rw [if_pos (show isNum n.data.toList = true from (cls_emp n e h).2)]
theorem emp_len (l : List Tm) : l.isEmpty = decide (l.length = 0) := by cases l <;> simp
theorem cmp_def (n m : ByteArray) (l r : List Tm) : cmpT (.mk n l) (.mk m r) = thn (sg (cls n (decide (l.length = 0))) (cls m (decide (r.length = 0)))) (thn (if cls n (decide (l.length = 0)) = 0 then sg (valL n.data.toList) (valL m.data.toList) else thn (sg l.length r.length) (lexB n.data.toList m.data.toList)) (cmpL l r)) := by
  simp only [cmpT]
  rw [emp_len, emp_len]
  rfl
theorem thn0 (z : Int) : thn 0 z = z := by simp [thn]
theorem thn1 {y : Int} (h : y ≠ 0) (z : Int) : thn y z = y := by simp [thn, h]
theorem sg0 (z : Int) : sg z z = 0 := by rw [sg_zero]
theorem cmp_len {n m : ByteArray} {l r : List Tm} (hc : cls n (decide (l.length = 0)) = cls m (decide (r.length = 0))) (hl : l.length ≠ r.length) : cmpT (.mk n l) (.mk m r) = sg l.length r.length := by
  rw [cmp_def]
  have h0 : cls n (decide (l.length = 0)) ≠ 0 := by
    intro h
    have h1 := of_decide_eq_true (cls_emp _ _ h).1
    have h2 := of_decide_eq_true (cls_emp _ _ (hc.symm.trans h)).1
    omega
  have hz : sg (l.length : Int) r.length ≠ 0 := by rw [Ne, sg_zero]; omega
  rw [if_neg h0, ← hc, sg0, thn0, thn1 hz, thn1 hz]
theorem cmp_cls {n m : ByteArray} {l r : List Tm} (hc : cls n (decide (l.length = 0)) ≠ cls m (decide (r.length = 0))) : cmpT (.mk n l) (.mk m r) = headF (cls n (decide (l.length = 0))) n (cls m (decide (r.length = 0))) m := by
  rw [cmp_def, thn1 (by rw [Ne, sg_zero]; exact hc)]
  unfold headF
  rw [if_pos hc]
theorem cmp_nm {n m : ByteArray} {l r : List Tm} (hc : cls n (decide (l.length = 0)) = cls m (decide (r.length = 0))) (hl : l.length = r.length) (hn : n ≠ m) : cmpT (.mk n l) (.mk m r) = headF (cls n (decide (l.length = 0))) n (cls m (decide (r.length = 0))) m := by
  rw [cmp_def]
  unfold headF
  rw [if_neg (not_not_intro hc), ← hc, sg0, thn0, hl, sg0, thn0]
  rw [hl] at hc
  by_cases h0 : cls n (decide (r.length = 0)) = 0
  · have h1 := of_decide_eq_true (cls_emp _ _ h0).1
    have h2 : r = [] := List.length_eq_zero_iff.1 h1
    have h3 : l = [] := List.length_eq_zero_iff.1 (hl.trans h1)
    rw [if_pos h0, if_pos h0, cls_num h0, cls_num (hc.symm.trans h0)]
    subst h2 h3
    simp only [cmpL]
    unfold thn
    split <;> simp_all
  · rw [if_neg h0, if_neg h0]
    have hz : lexB n.data.toList m.data.toList ≠ 0 := by rw [Ne, lex_zero]; intro h; exact hn (bytes_inj h)
    rw [thn1 hz]
theorem cmp_args {n : ByteArray} {l r : List Tm} (hl : l.length = r.length) : cmpT (.mk n l) (.mk n r) = cmpL l r := by
  have l0 : ∀ z, lexB z z = 0 := fun z => by rw [lex_zero]
  rw [cmp_def, hl, sg0, sg0, sg0, l0, thn0, thn0]
  split <;> rw [thn0]
theorem Gr.dr {a b : World} (h : Gr a b) : Gr a b.drew := h.trans (Gr.drew b)
theorem has_puts {X : World} {g h : Nat} {a b a' b' : Value} (h5 : Has X g #[a, b]) (h6 : Has X h #[a', b']) (hne : g ≠ h) (u v u' v' : Value) :
    Has ((((X.setCell ⟨g, 0, none⟩ u).setCell ⟨g, 1, none⟩ v).setCell ⟨h, 0, none⟩ u').setCell ⟨h, 1, none⟩ v') g #[u, v] ∧
    Has ((((X.setCell ⟨g, 0, none⟩ u).setCell ⟨g, 1, none⟩ v).setCell ⟨h, 0, none⟩ u').setCell ⟨h, 1, none⟩ v') h #[u', v'] := by
  constructor
  · exact ((((h5.set 0 u).set 1 v).far (p := ⟨h, 0, none⟩) hne u').far (p := ⟨h, 1, none⟩) hne v')
  · exact ((((h6.far (p := ⟨g, 0, none⟩) hne.symm u).far (p := ⟨g, 1, none⟩) hne.symm v).set 0 u').set 1 v')
theorem put2 {X : World} {g : Nat} (h : Has X g #[.int .i64 0, .string ⟨#[]⟩]) (u v : Value) : Has ((X.setCell ⟨g, 0, none⟩ u).setCell ⟨g, 1, none⟩ v) g #[u, v] := (h.set 0 u).set 1 v
theorem far2 {X : World} {g k : Nat} {cs : Array Value} (hne : g ≠ k) (h : Has X g cs) (u v : Value) : Has ((X.setCell ⟨k, 0, none⟩ u).setCell ⟨k, 1, none⟩ v) g cs := (h.far (p := ⟨k, 0, none⟩) hne u).far (p := ⟨k, 1, none⟩) hne v
theorem hasNew {w : World} {t : TypeId} {cs : Array Value} {g : Nat} (h : g = w.heap.size) : Has (w.alloc (.cells cs t)) g cs := by subst h; exact Has.new w t cs
set_option maxRecDepth 100000 in
set_option maxHeartbeats 6400000 in
theorem cmp_any (x : Tm) : CmpT 60 x := by
  induction x using Tm.ind with
  | h n l ih =>
    rintro B w sv ⟨m, r⟩ sv' hB hn hm h h'
    dsimp only [Tm.args, Tm.nm] at h h' hn hm ⊢
    have LS := Lib.hid (fun w hB h h' => list_of l r ih B w sv sv' hB h h')
    obtain ⟨p, c, rfl, _, hc, hcm, hR⟩ := h.row
    obtain ⟨p', c', rfl, _, hc', hcm', hR'⟩ := h'.row
    have hlf : l.length ≤ 9223372036854775807 := Nat.le_trans hc hcm
    have hlf' : r.length ≤ 9223372036854775807 := Nat.le_trans hc' hcm'
    have K1 := Lib.hid (fun w => head_any n p l.length c w hn)
    have K2 := Lib.hid (fun w => head_any m p' r.length c' w hm)
    have KH := Lib.hid (fun a b w => heads_any a b n m w hn hm)
    have KI := Lib.hid (fun a b w => cmpI_any a b w)
    have X1 := Lib.hid (fun h1 h2 => cmp_len (n := n) (m := m) (l := l) (r := r) h1 h2)
    have X2 := Lib.hid (fun h1 => cmp_cls (n := n) (m := m) (l := l) (r := r) h1)
    have X3 := Lib.hid (fun h1 h2 h3 => cmp_nm (n := n) (m := m) (l := l) (r := r) h1 h2 h3)
    have X4 : Hid (l.length = r.length → n = m → cmpT (.mk n l) (.mk m r) = cmpL l r) := Lib.hid (fun h1 h2 => by subst h2; exact cmp_args h1)
    generalize cls n (decide (l.length = 0)) = cx at *
    generalize cls m (decide (r.length = 0)) = cy at *
    generalize cmpT (.mk n l) (.mk m r) = R at *
    have HS := Lib.hid h
    have HS' := Lib.hid h'
    have HB := Lib.hid hB
    generalize l.length = a at *
    generalize r.length = b at *
    clear hR hR' h h' ih hc hc' hcm hcm' hn hm
    go_enter Tryz.func60, Tryz.ntmps60
    go_upto_region 1 with fail
    obtain ⟨W0, hW0⟩ : ∃ W0, W0 = (w.alloc (.cells #[.string n, .slice p a c] 27)).alloc (.cells #[.string m, .slice p' b c'] 27) := ⟨_, rfl⟩
    rw [← hW0]
    have G0 : Hid (Gr w W0) := Lib.hid (by rw [hW0]; exact (Gr.alloc _ _).more _)
    have HA : Hid (Has W0 w.heap.size #[.string n, .slice p a c] ∧ Has W0 (w.heap.size + 1) #[.string m, .slice p' b c']) := Lib.hid (by rw [hW0]; exact ⟨(Has.new _ _ _).alloc _, Has.new1 _ _ _ _⟩)
    clear hW0
    have Hb : Hid (∀ w', Gr W0 w' → w'.cell? ⟨w.heap.size, 0, none⟩ = some (.string n) ∧ w'.cell? ⟨w.heap.size, 1, none⟩ = some (.slice p a c) ∧ w'.cell? ⟨w.heap.size + 1, 0, none⟩ = some (.string m) ∧ w'.cell? ⟨w.heap.size + 1, 1, none⟩ = some (.slice p' b c') ∧ Hid (Gr W0 w') ∧ W0.heap.size ≤ w'.heap.size) := Lib.hid (fun w' hg => by
      obtain ⟨q1, q2, _⟩ := (hg.has HA.out.1).two
      obtain ⟨q3, q4, _⟩ := (hg.has HA.out.2).two
      exact ⟨q1, q2, q3, q4, Lib.hid hg, hg.size⟩)
    go_cut [5, 6] (fun s5 s6 wx => ∃ g h : Nat, s5 = .pointer (some ⟨g, 0, none⟩) ∧ s6 = .pointer (some ⟨h, 0, none⟩) ∧ Hid (Has wx g #[.int .i64 cx, .string n]) ∧ Hid (Has wx h #[.int .i64 cy, .string m]) ∧ Hid (Gr W0 wx))
    case first =>
      have hs0 := Hb.out _ (Gr.drew W0)
      clear LS KH KI X1 X2 X3 X4 HS HS' HB hB HA G0
      go_region_held3 (fun w' => w'.cell? ⟨w.heap.size, 0, none⟩ = some (.string n) ∧ w'.cell? ⟨w.heap.size, 1, none⟩ = some (.slice p a c) ∧ w'.cell? ⟨w.heap.size + 1, 0, none⟩ = some (.string m) ∧ w'.cell? ⟨w.heap.size + 1, 1, none⟩ = some (.slice p' b c') ∧ Hid (Gr W0 w') ∧ W0.heap.size ≤ w'.heap.size)
        (first | (with_reducible exact hs0) | (with_reducible assumption) | (with_reducible exact ⟨‹_›, ‹_›, ‹_›, ‹_›, ‹_›, ‹_›⟩) | (with_reducible refine Hb.out _ ?_; repeat (first | (with_reducible exact Gr.drew _) | (with_reducible exact Gr.refl _) | (with_reducible exact Hid.out (by assumption)) | (with_reducible refine Gr.dr ?_) | (with_reducible refine Gr.more ?_ _) | (refine Gr.put ?_ (by dsimp only; first | assumption | omega | (simp; try omega)) _))))
        (first
          | (go_at_call 92; go_split_ands; with_reducible refine (K1.out _).mono ?_; rintro e w' ⟨rfl, q0⟩; (try ((first | have y1a := q0.has (Has.new _ _ _) | have y1a := q0.has (Has.new _ _ _).drew); (try simp only [World.size_alloc] at y1a); have y1 := Lib.hid y1a; clear y1a)); (try ((first | have y2a := q0.has ((Has.new _ _ _).alloc _) | have y2a := q0.has ((Has.new _ _ _).alloc _).drew); (try simp only [World.size_alloc] at y2a); have y2 := Lib.hid y2a; clear y2a)); (try (have m1 := Nat.ne_of_lt y1.out.lt; have m2 := m1.symm)); (try (have m3 := Nat.ne_of_lt y2.out.lt; have m4 := m3.symm)); (have qg : Gr W0 w' := by (refine Gr.trans ?_ q0; repeat (with_reducible (first | exact Gr.drew _ | exact Gr.refl _ | exact Hid.out (by assumption) | refine Gr.dr ?_ | refine Gr.more ?_ _)))); clear q0; obtain ⟨z1, z2, z3, z4, z5, z6⟩ := Hb.out _ qg)
          | (go_at_call 92; go_split_ands; with_reducible refine (K2.out _).mono ?_; rintro e w' ⟨rfl, q0⟩; (try (have y3a := q0.has (Has.new _ _ _); (try simp only [World.size_alloc] at y3a); have y3 := Lib.hid y3a; clear y3a)); (try (have y4a := q0.has ((Has.new _ _ _).alloc _); (try simp only [World.size_alloc] at y4a); have y4 := Lib.hid y4a; clear y4a)); (try (have y5 := Lib.hid (q0.has y1.out))); (try (have y6 := Lib.hid (q0.has y2.out))); (try (have y7 := Lib.hid (q0.has (y1.out.alloc _)))); (have qg : Gr W0 w' := by (refine Gr.trans ?_ q0; repeat (with_reducible (first | exact Gr.drew _ | exact Gr.refl _ | exact Hid.out (by assumption) | refine Gr.dr ?_ | refine Gr.more ?_ _)))); clear q0; (try (have m5 := Nat.ne_of_lt y3.out.lt; have m6 := m5.symm)); (try (have m7 := Nat.ne_of_lt y4.out.lt; have m8 := m7.symm)); (try (have m9 := Nat.ne_of_lt y5.out.lt; have m10 := m9.symm)); (try (have m11 := Nat.ne_of_lt y6.out.lt; have m12 := m11.symm)); (try (have m13 := Nat.ne_of_lt y7.out.lt; have m14 := m13.symm)); (try (obtain ⟨_, _, _, _, _⟩ := y3.out.two)); (try (obtain ⟨_, _, _, _, _⟩ := y4.out.two)); (try (obtain ⟨_, _, _, _, _⟩ := y5.out.two)); (try (obtain ⟨_, _, _, _, _⟩ := y6.out.two)); (try (obtain ⟨_, _, _, _, _⟩ := y7.out.two)); obtain ⟨z1, z2, z3, z4, z5, z6⟩ := Hb.out _ qg))
      all_goals
        go_wp2_with fail
        go_meet
        refine ⟨_, _, rfl, rfl, ?_, ?_, ?_⟩
        · (refine Lib.hid ?_; repeat (first | (with_reducible exact y7.out) | (with_reducible exact y5.out) | (with_reducible exact y6.out) | (with_reducible exact y4.out) | (with_reducible exact y3.out) | ((with_reducible refine hasNew ?_); (first | rfl | (simp; done))) | (with_reducible refine put2 ?_ _ _) | ((with_reducible refine far2 ?_ ?_ _ _); (first | assumption | omega | (simp; done) | (simp; omega))) | (with_reducible refine Has.alloc ?_ _)))
        · (refine Lib.hid ?_; repeat (first | (with_reducible exact y7.out) | (with_reducible exact y5.out) | (with_reducible exact y6.out) | (with_reducible exact y4.out) | (with_reducible exact y3.out) | ((with_reducible refine hasNew ?_); (first | rfl | (simp; done))) | (with_reducible refine put2 ?_ _ _) | ((with_reducible refine far2 ?_ ?_ _ _); (first | assumption | omega | (simp; done) | (simp; omega))) | (with_reducible refine Has.alloc ?_ _)))
        · first | (with_reducible assumption) | (refine Lib.hid ?_; repeat (first | (with_reducible exact Gr.refl _) | (with_reducible exact Hid.out (by assumption)) | (with_reducible refine Gr.dr ?_) | (with_reducible refine Gr.more ?_ _) | (refine Gr.put ?_ (by dsimp only; first | assumption | omega | (simp; try omega)) _)))
    case rest =>
      obtain ⟨g, h, rfl, rfl, hx, hy, hg⟩ := hcut
      obtain ⟨z1, z2, z3, z4, z5, z6⟩ := Hb.out _ hg.out
      obtain ⟨x1, x2, _, _, x3⟩ := hx.out.two
      obtain ⟨y1, y2, _, _, y3⟩ := hy.out.two
      have GW := Lib.hid (G0.out.trans hg.out)
      clear K1 K2 Hb HA hx hy
      by_cases hc : cx = cy
      · by_cases hl : a = b
        · by_cases hnm : n = m
          · have HF := Lib.hid (X4.out hl hnm)
            subst hc hl hnm
            clear X1 X2 X3 X4 KH KI
            go_wp2_with fail
            refine (LS.out _ (Nat.le_trans HB.out GW.out.size) (HS.out.gr GW.out HB.out) (HS'.out.gr GW.out HB.out)).mono ?_
            rintro e w2 ⟨rfl, g2⟩
            have hg2 := Lib.hid (GW.out.trans g2)
            clear g2
            go_wp2_with fail
            go_ret
            exact ⟨ret_int HF.out.symm, hg2.out⟩
          · have HF := Lib.hid (X3.out hc hl hnm)
            have e1 : (n.toList == m.toList) = false := by
              rw [beq_eq_false_iff_ne]
              intro he
              rw [ByteArray.toList_eq, ByteArray.toList_eq] at he
              exact hnm (bytes_inj he)
            have e2 : (n.toList != m.toList) = true := by rw [bne, e1]; rfl
            clear hnm
            subst hc hl
            clear X1 X2 X3 X4 KI LS
            go_wp2_with fail
            refine (KH.out _ _ _).mono ?_
            rintro e w2 ⟨rfl, g2⟩
            have hg2 := Lib.hid (GW.out.trans g2)
            clear g2
            go_wp2_with fail
            go_ret
            exact ⟨ret_int HF.out.symm, hg2.out⟩
        · have HF := Lib.hid (X1.out hc hl)
          subst hc
          clear X1 X2 X3 X4 KH LS
          have hl1 : ((a : Int) != b) = true := bne_iff_ne.2 (by omega)
          go_wp2_with fail
          refine (KI.out _ _ _).mono ?_
          rintro e w2 ⟨rfl, rfl⟩
          go_wp2_with fail
          go_ret
          exact ⟨ret_int HF.out.symm, GW.out⟩
      · have HF := Lib.hid (X2.out hc)
        clear X1 X2 X3 X4 KI LS
        have hc1 : (cx == cy) = false := by simp only [beq_eq_false_iff_ne, ne_eq]; exact hc
        go_wp2_with fail
        refine (KH.out _ _ _).mono ?_
        rintro e w2 ⟨rfl, g2⟩
        have hg2 := Lib.hid (GW.out.trans g2)
        clear g2
        go_wp2_with fail
        go_ret
        exact ⟨ret_int HF.out.symm, hg2.out⟩
theorem cmplist_any (l r : List Tm) (B : Nat) (w : World) (v v' : Value) (hB : B ≤ w.heap.size) (h : SlIn (· < B) w l v) (h' : SlIn (· < B) w r v') :
    Calls Tryz.prog 95 #[v, v'] w fun e w' => e = .returned (.int .i64 (cmpL l r)) ∧ Gr w w' := list_of l r (fun x _ => cmp_any x) B w v v' hB h h'
end TermR
end Go.Proofs.YtihbnonbhelbmaaGreatDoor
