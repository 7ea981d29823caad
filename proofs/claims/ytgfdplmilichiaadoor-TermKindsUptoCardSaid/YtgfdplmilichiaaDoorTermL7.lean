/- TermKinds' walk. Condition: at most ten million bytes of text. -/
import Derived.Test.YtgfdplmilichiaaDoorTermW
import Derived.Test.YtgfdplmilichiaaDoorTermBk
import Derived.Deep.RegionHeld3
import Derived.Deep.DeepCutAuto
namespace Go.Proofs.YtgfdplmilichiaaDoor
open Go Go.RowKit
namespace TermL7
open LexM TermM TermI Kit TermN TermS TermP TermQ TermR TermL TermE TermF TermT TermH TermW TermV TermTx TermBk
theorem b_more {W w : World} (h : Below W.heap.size W w) (o : Obj) : Below W.heap.size W (w.alloc o) := h.alloc h.size o
set_option maxRecDepth 100000 in
set_option maxHeartbeats 25600000 in
theorem kinds (t : Tm) (w : World) (tv : Value) (hw : Wd w) (hs : t.nm.size ≤ maxLen) (h' : SlIn (· < w.heap.size) w t.args tv) (hbk : (textT t).length ≤ 10000000) :
    Calls Tryd.prog 4 #[.agg #[.string t.nm, tv]] w fun e w' => e = .returned (.bool true) ∧ Below w.heap.size w w' := by
  have CA := Lib.hid (fun w' (q : Below w.heap.size w w') => awake_any w' (hw.below q hw.1))
  have F2 := Lib.hid (fun w' (q : Below w.heap.size w w') => (small_any t w.heap.size w' tv q.size (h'.deep q (Nat.le_refl _))).mono fun _ _ ⟨a, b⟩ => And.intro a b.1)
  have SZ : Hid (decide (partsT 40 40 t ≤ 40) = true → sizeT t ≤ 40) := Lib.hid (fun h => by
    have h3 := of_decide_eq_true h
    have h4 := (parts_size 40 40 t h3).1
    omega)
  have HH' := Lib.hid h'
  have HNM := Lib.hid hs
  have HW := Lib.hid hw
  obtain ⟨pt, ct, rfl⟩ := h'.form
  generalize decide (partsT 40 40 t ≤ 40) = Sb at *
  generalize htn : t.nm = tn at *
  have HTN := Lib.hid htn
  generalize hta : t.args.length = ta at *
  have HTA := Lib.hid hta
  obtain ⟨W1, hW1⟩ : ∃ W1, W1 = w.alloc (.cells #[.string tn, .slice pt ta ct] 28) := ⟨_, rfl⟩
  have B1 : Hid (Below w.heap.size w W1) := Lib.hid (by rw [hW1]; exact below_alloc w _)
  have H1 : Hid (Has W1 w.heap.size #[.string tn, .slice pt ta ct]) := Lib.hid (by rw [hW1]; exact Has.new _ _ _)
  clear h' hs htn hta hw
  go_enter Tryd.func4, Tryd.ntmps4
  go_upto_region 1 with fail
  rw [← hW1]
  clear hW1
  obtain ⟨x1, x2, _⟩ := H1.out.two
  go_wp2_with fail
  refine (F2.out _ B1.out).mono ?_
  rintro e W2 ⟨rfl, k⟩
  have G2 := Lib.hid (next0 B1.out k)
  have H2 := Lib.hid (H1.out.step0 k)
  clear k x1 x2
  cases Sb
  · go_wp2_with fail
    refine (CA.out _ G2.out).mono ?_
    rintro e w4 ⟨rfl, k⟩
    have D := Lib.hid (next0 G2.out k)
    clear k
    go_wp2_with fail
    go_ret
    exact ⟨rfl, D.out⟩
  have hsz : sizeT t ≤ 40 := SZ.out (by simp)
  have K1 : Hid (∀ w', Below W2.heap.size W2 w' → Calls Tryd.prog 18 #[.agg #[.string tn, .slice pt ta ct]] w' fun e w'' => e = .returned (.bool (validT false 4 t)) ∧ Below w'.heap.size w' w'') := Lib.hid (fun w' g => by
    have := (valid_any t w.heap.size w' (.slice pt ta ct) (next0 G2.out g).size (by rw [HTN.out]; exact HNM.out) (HH'.out.deep (next0 G2.out g) (Nat.le_refl _))).mono fun _ _ ⟨a, b⟩ => (And.intro a b.1 : _ ∧ Below w'.heap.size w' _)
    rw [HTN.out] at this
    exact this)
  have K2 : Hid (∀ w', Below W2.heap.size W2 w' → Calls Tryd.prog 19 #[.agg #[.string tn, .slice pt ta ct]] w' fun e w'' => e = .returned (.bool (validT false 4 t)) ∧ Below w'.heap.size w' w'') := Lib.hid (fun w' g => by
    have := (rvalid_any t w.heap.size w' (.slice pt ta ct) (next0 G2.out g).size (by rw [HTN.out]; exact HNM.out) (HH'.out.deep (next0 G2.out g) (Nat.le_refl _))).mono fun _ _ ⟨a, b⟩ => (And.intro a b.1 : _ ∧ Below w'.heap.size w' _)
    rw [HTN.out] at this
    exact this)
  have K3 : Hid (∀ w', Below W2.heap.size W2 w' → Calls Tryd.prog 20 #[.agg #[.string tn, .slice pt ta ct]] w' fun e w'' => e = .returned (.bool (groundB t)) ∧ Below w'.heap.size w' w'') := Lib.hid (fun w' g => by
    have := ground_any t w.heap.size w' (.slice pt ta ct) (next0 G2.out g).size (by rw [HTN.out]; exact HNM.out) (HH'.out.deep (next0 G2.out g) (Nat.le_refl _)) (by omega)
    rw [HTN.out] at this
    exact this)
  have K4 : Hid (∀ w', Below W2.heap.size W2 w' → Calls Tryd.prog 21 #[.agg #[.string tn, .slice pt ta ct]] w' fun e w'' => e = .returned (.bool (groundB t)) ∧ Below w'.heap.size w' w'') := Lib.hid (fun w' g => by
    have := ((by rw [ground_eq]; exact rground_any t w.heap.size w' (.slice pt ta ct) (next0 G2.out g).size (by rw [HTN.out]; exact HNM.out) (HH'.out.deep (next0 G2.out g) (Nat.le_refl _)) : Calls _ _ _ w' fun e w'' => e = .returned (.bool (groundB t)) ∧ Gr w' w'')).mono fun _ _ ⟨a, b⟩ => (And.intro a b.1 : _ ∧ Below w'.heap.size w' _)
    rw [HTN.out] at this
    exact this)
  have K5 : Hid (∀ w', Below W2.heap.size W2 w' → Calls Tryd.prog 22 #[.agg #[.string tn, .slice pt ta ct]] w' fun e w'' => e = .returned (.int .i64 (depthT t)) ∧ Below w'.heap.size w' w'') := Lib.hid (fun w' g => by
    have := (depth_any t w.heap.size w' (.slice pt ta ct) (next0 G2.out g).size (HH'.out.deep (next0 G2.out g) (Nat.le_refl _)) (by omega)).mono fun _ _ ⟨a, b⟩ => (And.intro a b.1 : _ ∧ Below w'.heap.size w' _)
    rw [HTN.out] at this
    exact this)
  have K6 : Hid (∀ w', Below W2.heap.size W2 w' → Calls Tryd.prog 23 #[.agg #[.string tn, .slice pt ta ct]] w' fun e w'' => e = .returned (.int .i64 (depthT t)) ∧ Below w'.heap.size w' w'') := Lib.hid (fun w' g => by
    have := (rdepth_any t w.heap.size w' (.slice pt ta ct) (next0 G2.out g).size (HH'.out.deep (next0 G2.out g) (Nat.le_refl _)) (by omega)).mono fun _ _ ⟨a, b⟩ => (And.intro a b.1 : _ ∧ Below w'.heap.size w' _)
    rw [HTN.out] at this
    exact this)
  have K7 : Hid (∀ w', Below W2.heap.size W2 w' → Calls Tryd.prog 24 #[.agg #[.string tn, .slice pt ta ct]] w' fun e w'' => e = .returned (.int .i64 (sizeT t)) ∧ Below w'.heap.size w' w'') := Lib.hid (fun w' g => by
    have := (size_any t w.heap.size w' (.slice pt ta ct) (next0 G2.out g).size (HH'.out.deep (next0 G2.out g) (Nat.le_refl _)) (by omega)).mono fun _ _ ⟨a, b⟩ => (And.intro a b.1 : _ ∧ Below w'.heap.size w' _)
    rw [HTN.out] at this
    exact this)
  have K8 : Hid (∀ w', Below W2.heap.size W2 w' → Calls Tryd.prog 25 #[.agg #[.string tn, .slice pt ta ct]] w' fun e w'' => e = .returned (.int .i64 (sizeT t)) ∧ Below w'.heap.size w' w'') := Lib.hid (fun w' g => by
    have := (rsize_any t w.heap.size w' (.slice pt ta ct) (next0 G2.out g).size (HH'.out.deep (next0 G2.out g) (Nat.le_refl _)) (by omega)).mono fun _ _ ⟨a, b⟩ => (And.intro a b.1 : _ ∧ Below w'.heap.size w' _)
    rw [HTN.out] at this
    exact this)
  have K9 : Hid (∀ w', Below W2.heap.size W2 w' → Calls Tryd.prog 26 #[.agg #[.string tn, .slice pt ta ct]] w' fun e w'' => e = .returned (.string (tx t)) ∧ Below w'.heap.size w' w'') := Lib.hid (fun w' g => by
    have := text_any t w.heap.size w' (.slice pt ta ct) (HW.out.below (next0 G2.out g) HW.out.1) (next0 G2.out g).size (HH'.out.deep (next0 G2.out g) (Nat.le_refl _)) (by omega)
    rw [HTN.out] at this
    exact this)
  have Ka : Hid (∀ w', Below W2.heap.size W2 w' → Calls Tryd.prog 27 #[.agg #[.string tn, .slice pt ta ct]] w' fun e w'' => e = .returned (.string (tx t)) ∧ Below w'.heap.size w' w'') := Lib.hid (fun w' g => by
    have := (rtext_any t w.heap.size w' (.slice pt ta ct) (next0 G2.out g).size (HH'.out.deep (next0 G2.out g) (Nat.le_refl _)) (by omega)).mono fun _ _ ⟨a, b⟩ => (And.intro a b.1 : _ ∧ Below w'.heap.size w' _)
    rw [HTN.out] at this
    exact this)
  have CA2 : Hid (∀ w', Below W2.heap.size W2 w' → Calls Tryd.prog 10 #[] w' fun e w'' => e = .returned (.bool true) ∧ Below w'.heap.size w' w'') := Lib.hid (fun w' g => CA.out w' (next0 G2.out g))
  generalize validT false 4 t = r1 at *
  generalize groundB t = r2 at *
  generalize ((depthT t : Nat) : Int) = r3 at *
  generalize ((sizeT t : Nat) : Int) = r4 at *
  generalize tx t = r5 at *
  have q1 : (r1 == r1) = true := by simp
  have q2 : (r2 == r2) = true := by simp
  have q3 : (r3 == r3) = true := by simp
  have q4 : (r4 == r4) = true := by simp
  have q5 : (r5.toList == r5.toList) = true := by simp
  have htb : w.heap.size < W2.heap.size := H2.out.lt
  obtain ⟨x1, x2, _⟩ := H2.out.two
  have Hb : Hid (∀ w', Below W2.heap.size W2 w' → w'.cell? ⟨w.heap.size, 0, none⟩ = some (.string tn) ∧ w'.cell? ⟨w.heap.size, 1, none⟩ = some (.slice pt ta ct) ∧ Hid (Below W2.heap.size W2 w') ∧ W2.heap.size ≤ w'.heap.size) := Lib.hid (fun w' g => ⟨(g.cell (p := ⟨w.heap.size, _, none⟩) htb).trans x1, (g.cell (p := ⟨w.heap.size, _, none⟩) htb).trans x2, Lib.hid g, g.size⟩)
  clear CA F2 SZ HH' HNM HW HTN HTA B1 H1 H2 hbk hsz x1 x2
  go_upto_region 3 with fail
  go_cut [2] (fun s2 wx => s2 = .bool true ∧ Hid (Below W2.heap.size W2 wx))
  case first =>
    have hs0 := Hb.out _ (Below.refl _ _).drew
    go_region_held3 (fun w' => w'.cell? ⟨w.heap.size, 0, none⟩ = some (.string tn) ∧ w'.cell? ⟨w.heap.size, 1, none⟩ = some (.slice pt ta ct) ∧ Hid (Below W2.heap.size W2 w') ∧ W2.heap.size ≤ w'.heap.size)
      (first | (with_reducible assumption) | (with_reducible exact ⟨‹_›, ‹_›, ‹_›, ‹_›⟩) | (with_reducible refine Hb.out _ ?_; repeat (first | (with_reducible exact Hid.out (by assumption)) | (with_reducible exact Below.refl _ _) | (with_reducible refine Below.drew ?_) | (with_reducible refine b_more ?_ _))))
      (first | (go_at_call 18; (try go_split_ands); (with_reducible refine (K1.out _ (by repeat (first | (with_reducible exact Hid.out (by assumption)) | (with_reducible exact Below.refl _ _) | (with_reducible refine Below.drew ?_) | (with_reducible refine b_more ?_ _)))).mono ?_); rintro e w' ⟨rfl, q0⟩; (have qg : Below W2.heap.size W2 w' := by (refine next0 ?_ q0; repeat (first | (with_reducible exact Hid.out (by assumption)) | (with_reducible exact Below.refl _ _) | (with_reducible refine Below.drew ?_) | (with_reducible refine b_more ?_ _)))); clear q0; obtain ⟨z1, z2, z3, z4⟩ := Hb.out _ qg) | (go_at_call 19; (try go_split_ands); (with_reducible refine (K2.out _ (by repeat (first | (with_reducible exact Hid.out (by assumption)) | (with_reducible exact Below.refl _ _) | (with_reducible refine Below.drew ?_) | (with_reducible refine b_more ?_ _)))).mono ?_); rintro e w' ⟨rfl, q0⟩; (have qg : Below W2.heap.size W2 w' := by (refine next0 ?_ q0; repeat (first | (with_reducible exact Hid.out (by assumption)) | (with_reducible exact Below.refl _ _) | (with_reducible refine Below.drew ?_) | (with_reducible refine b_more ?_ _)))); clear q0; obtain ⟨z1, z2, z3, z4⟩ := Hb.out _ qg) | (go_at_call 20; (try go_split_ands); (with_reducible refine (K3.out _ (by repeat (first | (with_reducible exact Hid.out (by assumption)) | (with_reducible exact Below.refl _ _) | (with_reducible refine Below.drew ?_) | (with_reducible refine b_more ?_ _)))).mono ?_); rintro e w' ⟨rfl, q0⟩; (have qg : Below W2.heap.size W2 w' := by (refine next0 ?_ q0; repeat (first | (with_reducible exact Hid.out (by assumption)) | (with_reducible exact Below.refl _ _) | (with_reducible refine Below.drew ?_) | (with_reducible refine b_more ?_ _)))); clear q0; obtain ⟨z1, z2, z3, z4⟩ := Hb.out _ qg) | (go_at_call 21; (try go_split_ands); (with_reducible refine (K4.out _ (by repeat (first | (with_reducible exact Hid.out (by assumption)) | (with_reducible exact Below.refl _ _) | (with_reducible refine Below.drew ?_) | (with_reducible refine b_more ?_ _)))).mono ?_); rintro e w' ⟨rfl, q0⟩; (have qg : Below W2.heap.size W2 w' := by (refine next0 ?_ q0; repeat (first | (with_reducible exact Hid.out (by assumption)) | (with_reducible exact Below.refl _ _) | (with_reducible refine Below.drew ?_) | (with_reducible refine b_more ?_ _)))); clear q0; obtain ⟨z1, z2, z3, z4⟩ := Hb.out _ qg) | (go_at_call 22; (try go_split_ands); (with_reducible refine (K5.out _ (by repeat (first | (with_reducible exact Hid.out (by assumption)) | (with_reducible exact Below.refl _ _) | (with_reducible refine Below.drew ?_) | (with_reducible refine b_more ?_ _)))).mono ?_); rintro e w' ⟨rfl, q0⟩; (have qg : Below W2.heap.size W2 w' := by (refine next0 ?_ q0; repeat (first | (with_reducible exact Hid.out (by assumption)) | (with_reducible exact Below.refl _ _) | (with_reducible refine Below.drew ?_) | (with_reducible refine b_more ?_ _)))); clear q0; obtain ⟨z1, z2, z3, z4⟩ := Hb.out _ qg) | (go_at_call 23; (try go_split_ands); (with_reducible refine (K6.out _ (by repeat (first | (with_reducible exact Hid.out (by assumption)) | (with_reducible exact Below.refl _ _) | (with_reducible refine Below.drew ?_) | (with_reducible refine b_more ?_ _)))).mono ?_); rintro e w' ⟨rfl, q0⟩; (have qg : Below W2.heap.size W2 w' := by (refine next0 ?_ q0; repeat (first | (with_reducible exact Hid.out (by assumption)) | (with_reducible exact Below.refl _ _) | (with_reducible refine Below.drew ?_) | (with_reducible refine b_more ?_ _)))); clear q0; obtain ⟨z1, z2, z3, z4⟩ := Hb.out _ qg) | (go_at_call 24; (try go_split_ands); (with_reducible refine (K7.out _ (by repeat (first | (with_reducible exact Hid.out (by assumption)) | (with_reducible exact Below.refl _ _) | (with_reducible refine Below.drew ?_) | (with_reducible refine b_more ?_ _)))).mono ?_); rintro e w' ⟨rfl, q0⟩; (have qg : Below W2.heap.size W2 w' := by (refine next0 ?_ q0; repeat (first | (with_reducible exact Hid.out (by assumption)) | (with_reducible exact Below.refl _ _) | (with_reducible refine Below.drew ?_) | (with_reducible refine b_more ?_ _)))); clear q0; obtain ⟨z1, z2, z3, z4⟩ := Hb.out _ qg) | (go_at_call 25; (try go_split_ands); (with_reducible refine (K8.out _ (by repeat (first | (with_reducible exact Hid.out (by assumption)) | (with_reducible exact Below.refl _ _) | (with_reducible refine Below.drew ?_) | (with_reducible refine b_more ?_ _)))).mono ?_); rintro e w' ⟨rfl, q0⟩; (have qg : Below W2.heap.size W2 w' := by (refine next0 ?_ q0; repeat (first | (with_reducible exact Hid.out (by assumption)) | (with_reducible exact Below.refl _ _) | (with_reducible refine Below.drew ?_) | (with_reducible refine b_more ?_ _)))); clear q0; obtain ⟨z1, z2, z3, z4⟩ := Hb.out _ qg) | (go_at_call 26; (try go_split_ands); (with_reducible refine (K9.out _ (by repeat (first | (with_reducible exact Hid.out (by assumption)) | (with_reducible exact Below.refl _ _) | (with_reducible refine Below.drew ?_) | (with_reducible refine b_more ?_ _)))).mono ?_); rintro e w' ⟨rfl, q0⟩; (have qg : Below W2.heap.size W2 w' := by (refine next0 ?_ q0; repeat (first | (with_reducible exact Hid.out (by assumption)) | (with_reducible exact Below.refl _ _) | (with_reducible refine Below.drew ?_) | (with_reducible refine b_more ?_ _)))); clear q0; obtain ⟨z1, z2, z3, z4⟩ := Hb.out _ qg) | (go_at_call 27; (try go_split_ands); (with_reducible refine (Ka.out _ (by repeat (first | (with_reducible exact Hid.out (by assumption)) | (with_reducible exact Below.refl _ _) | (with_reducible refine Below.drew ?_) | (with_reducible refine b_more ?_ _)))).mono ?_); rintro e w' ⟨rfl, q0⟩; (have qg : Below W2.heap.size W2 w' := by (refine next0 ?_ q0; repeat (first | (with_reducible exact Hid.out (by assumption)) | (with_reducible exact Below.refl _ _) | (with_reducible refine Below.drew ?_) | (with_reducible refine b_more ?_ _)))); clear q0; obtain ⟨z1, z2, z3, z4⟩ := Hb.out _ qg) | (go_at_call 10; (try go_split_ands); (with_reducible refine (CA2.out _ (by repeat (first | (with_reducible exact Hid.out (by assumption)) | (with_reducible exact Below.refl _ _) | (with_reducible refine Below.drew ?_) | (with_reducible refine b_more ?_ _)))).mono ?_); rintro e w' ⟨rfl, q0⟩; (have qg : Below W2.heap.size W2 w' := by (refine next0 ?_ q0; repeat (first | (with_reducible exact Hid.out (by assumption)) | (with_reducible exact Below.refl _ _) | (with_reducible refine Below.drew ?_) | (with_reducible refine b_more ?_ _)))); clear q0; obtain ⟨z1, z2, z3, z4⟩ := Hb.out _ qg))
    all_goals
      go_wp2_with fail
      go_meet
      exact ⟨rfl, Lib.hid qg⟩
  case rest =>
    obtain ⟨rfl, hq⟩ := hcut
    go_wp2_with fail
    go_ret
    exact ⟨rfl, next0 G2.out hq.out⟩
end TermL7
end Go.Proofs.YtgfdplmilichiaaDoor
