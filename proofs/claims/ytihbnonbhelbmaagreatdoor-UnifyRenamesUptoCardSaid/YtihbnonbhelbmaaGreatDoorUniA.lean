/- Valid of substitutions, code and reference; made by genunia.py. No conditions on sizes. -/
import Derived.Test.YtihbnonbhelbmaaGreatDoorUniK
import Derived.Test.YtihbnonbhelbmaaGreatDoorUniM
import Derived.Test.YtihbnonbhelbmaaGreatDoorTermV
import Derived.Test.YtihbnonbhelbmaaGreatDoorTermC
import Derived.IntWalk
import Derived.BigQuiet
import Derived.Deep.RegionHeld3
import Derived.Deep.DeepCutAuto
namespace Go.Proofs.YtihbnonbhelbmaaGreatDoor
open Go Go.RowKit
namespace UniA
open LexM TermM TermI Kit TermN TermU UniK UniM
theorem gr_dr {a b : World} (h : Gr a b) : Gr a b.drew := h.trans (Gr.drew b)
theorem three {w : World} {g : Nat} {a b c : Value} (h : Has w g #[a, b, c]) : w.cell? ⟨g, 0, none⟩ = some a ∧ w.cell? ⟨g, 1, none⟩ = some b ∧ w.cell? ⟨g, 2, none⟩ = some c := ⟨h.cell 0, h.cell 1, h.cell 2⟩
theorem quiet_eq {P : Program} {f : FuncId} {args : Array Value} {w : World} {n : Nat} {v : Value}
    (h : Calls P f args (w.drewN n) fun e w' => e = .returned v ∧ w.drewN n = w') : Calls P f args (w.drewN n) fun e w'' => e = .returned v ∧ ∃ m, w'' = w.drewN m :=
  h.mono fun _ _ ⟨he, hm⟩ => ⟨he, n, hm.symm⟩
theorem ret_b {a b : Bool} (h : a = b) : Ending.returned (.bool a) = .returned (.bool b) := by rw [h]
/-- The first k bindings are as they should be. -/
def okS (s : List Bd) (k : Nat) : Prop := (∀ j t, j < k → s[j]? = some t → varB t.1 = true ∧ validT false 4 t.2 = true) ∧ ∀ j a b, j + 1 < k → s[j]? = some a → s[j + 1]? = some b → ltB a.1 b.1 = true
theorem ok_zero (s : List Bd) : okS s 0 := ⟨fun _ _ h => absurd h (Nat.not_lt_zero _), fun _ _ _ h => absurd h (Nat.not_lt_zero _)⟩
theorem ok_le {s : List Bd} {n k : Nat} (h : okS s n) (hk : k ≤ n) : okS s k := ⟨fun j t hj => h.1 j t (by omega), fun j a b hj => h.2 j a b (by omega)⟩
theorem ok_next {s : List Bd} {k : Nat} {t : Bd} (ht : s[k]? = some t) (h : okS s k) (h1 : varB t.1 = true) (h2 : validT false 4 t.2 = true) (h3 : ∀ x, 0 < k → s[k - 1]? = some x → ltB x.1 t.1 = true) : okS s (k + 1) := by
  refine ⟨fun j x hj hx => ?_, fun j a b hj ha hb => ?_⟩
  · by_cases e : j = k
    · subst e; rw [ht] at hx; cases hx; exact ⟨h1, h2⟩
    · exact h.1 j x (by omega) hx
  · by_cases e : j + 1 = k
    · subst e; rw [ht] at hb; cases hb; exact h3 a (by omega) (by simpa using ha)
    · exact h.2 j a b (by omega) ha hb
theorem ok_back {s : List Bd} {k : Nat} {t : Bd} (ht : s[k]? = some t) (h : okS s (k + 1)) : varB t.1 = true ∧ validT false 4 t.2 = true ∧ ∀ x, 0 < k → s[k - 1]? = some x → ltB x.1 t.1 = true :=
  ⟨(h.1 k t (by omega) ht).1, (h.1 k t (by omega) ht).2, fun x h0 hx => h.2 (k - 1) x t (by omega) hx (by rw [show k - 1 + 1 = k by omega]; exact ht)⟩
theorem asc_iff : ∀ s : List Bd, ascB s = true ↔ ∀ j a b, s[j]? = some a → s[j + 1]? = some b → ltB a.1 b.1 = true
  | [] => ⟨fun _ j a b h => by simp at h, fun _ => rfl⟩
  | [x] => ⟨fun _ j a b _ h => by simp at h, fun _ => rfl⟩
  | x :: y :: r => by
    rw [ascB, Bool.and_eq_true, asc_iff (y :: r)]
    constructor
    · rintro ⟨h1, h2⟩ j a b ha hb
      cases j with
      | zero => simp at ha hb; subst ha hb; exact h1
      | succ j => exact h2 j a b (by simpa using ha) (by simpa using hb)
    · intro h
      exact ⟨h 0 x y rfl rfl, fun j a b ha hb => h (j + 1) a b (by simpa using ha) (by simpa using hb)⟩
theorem vld_iff (s : List Bd) : vldS s = true ↔ s.length ≤ 64 ∧ okS s s.length := by
  unfold vldS okS
  rw [Bool.and_eq_true, Bool.and_eq_true, decide_eq_true_eq, List.all_eq_true, asc_iff]
  constructor
  · rintro ⟨h1, h2, h3⟩
    refine ⟨h1, fun j t _ ht => ?_, fun j a b _ ha hb => h3 j a b ha hb⟩
    have := h2 t (List.mem_of_getElem? ht)
    rwa [Bool.and_eq_true] at this
  · rintro ⟨h1, h2, h3⟩
    refine ⟨h1, fun t ht => ?_, fun j a b ha hb => h3 j a b ?_ ha hb⟩
    · obtain ⟨j, hj⟩ := List.mem_iff_getElem?.1 ht
      rw [Bool.and_eq_true]
      exact h2 j t (List.getElem?_eq_some_iff.1 hj).1 hj
    · exact (List.getElem?_eq_some_iff.1 hb).1
set_option maxRecDepth 100000 in
set_option maxHeartbeats 6400000 in
theorem cvalid_any (s : List Bd) (B : Nat) (w : World) (v : Value) (hB : B ≤ w.heap.size) (h : SIn (· < B) w s v) :
    Calls Tryz.prog 15 #[v] w fun e w' => e = .returned (.bool (vldS s)) ∧ Gr w w' := by
  obtain ⟨p, c, rfl, hc, hm, hR⟩ := SIn.row h
  have hlm : s.length ≤ maxLen := Nat.le_trans hc hm
  unfold maxLen at hlm
  have VI := Lib.hid (vld_iff s)
  by_cases h64 : 64 < s.length
  · have h64' : (64 : Int) < s.length := by omega
    have HF : Hid (vldS s = false) := Lib.hid (by rw [Bool.eq_false_iff]; intro hh; have := (VI.out.1 hh).1; omega)
    generalize vldS s = R at *
    obtain rfl := HF.out
    clear h hR hc hm HF VI
    generalize s.length = n at *
    go_enter Tryz.func15, Tryz.ntmps15
    go_wp2_with fail
    go_ret
    exact ⟨rfl, Gr.refl _⟩
  · have h64' : ¬ (64 : Int) < s.length := by omega
    have HR := Lib.hid hR
    have HB := Lib.hid hB
    have O0 : Hid (okS s 0) := Lib.hid (ok_zero s)
    have ON := Lib.hid (fun k t (ht : s[k]? = some t) (h : okS s k) => ok_next (k := k) (t := t) ht h)
    have OF := Lib.hid (fun k t (ht : s[k]? = some t) (h : okS s (k + 1)) => ok_back (k := k) (t := t) ht h)
    have OB := Lib.hid (fun k (h : okS s s.length) (hk : k ≤ s.length) => ok_le (s := s) h hk)
    have VV := Lib.hid (fun (t : Tm) (w' : World) (v : Value) (hw : B ≤ w'.heap.size) (hs : t.nm.size ≤ maxLen) (h : SlIn (· < B) w' t.args v) => TermV.valid_any t B w' v hw hs h)
    have hn64 : s.length ≤ 64 := by omega
    clear h hR hB hc hm
    generalize vldS s = R at *
    generalize hln : s.length = n at *
    have HN := Lib.hid hln
    clear hln
    go_enter Tryz.func15, Tryz.ntmps15
    go_wp2_with fail
    go_loopw [10] (fun i wL => ∃ k : Nat, k ≤ n ∧ i = .int .i64 k ∧ Hid (Gr w wL) ∧ Hid (okS s k)) (fun i _ => n - (intOf i).toNat)
    case atStart => exact ⟨0, by omega, rfl, Lib.hid (Gr.refl _), O0⟩
    case round =>
      obtain ⟨k, hk, rfl, hG, hO⟩ := hrel
      by_cases hlt : k < n
      · obtain ⟨t, b, o, q, d, ht, rfl, hb, c1, c2, c3, hs, hts, htv⟩ := (RowS.gr HR.out hG.out HB.out) k (by rw [HN.out]; exact hlt)
        have NX := Lib.hid (ON.out k t ht hO.out)
        have BK := Lib.hid (fun h => OF.out k t ht h)
        have NO : Hid (¬ okS s (k + 1) → R = false) := Lib.hid (fun hh => by
          rw [Bool.eq_false_iff]
          intro hr
          exact hh (OB.out (k + 1) (VI.out.1 hr).2 (by omega)))
        have PV : Hid (0 < k → ∃ x, s[k - 1]? = some x ∧ wr.cell? ⟨b, o + (k - 1) * 3, none⟩ = some (.string x.1)) := Lib.hid (fun h0 => by
          obtain ⟨x, b', o', q', d', hx, he, hb', e1, _⟩ := (RowS.gr HR.out hG.out HB.out) (k - 1) (by rw [HN.out]; omega)
          injection he with he
          injection he with e3 e4
          subst e3 e4
          exact ⟨x, hx, e1⟩)
        have hb1 : b < wr.heap.size := Nat.lt_of_lt_of_le hb (Nat.le_trans HB.out hG.out.size)
        have KV := Lib.hid (fun (w2 : World) (g : Gr wr w2) => VV.out t.2 w2 _ (Nat.le_trans HB.out (Nat.le_trans hG.out.size g.size)) hts (hs.gr g (Nat.le_trans HB.out hG.out.size)))
        have KN := Lib.hid (fun w2 => TermC.var_any t.1 w2 htv)
        have C1 := Lib.hid c1
        obtain ⟨W2, hW2⟩ : ∃ W2, W2 = wr.alloc (.cells #[.string t.1, .string t.2.nm, .slice q t.2.args.length d] 52) := ⟨_, rfl⟩
        have G2 : Gr wr W2 := by rw [hW2]; exact Gr.alloc _ _
        have hbx : wr.heap.size < W2.heap.size := by rw [hW2]; simp
        obtain ⟨y1, y2, y3⟩ := three (show Has W2 wr.heap.size #[.string t.1, .string t.2.nm, .slice q t.2.args.length d] by rw [hW2]; exact Has.new _ _ _)
        have PV := Lib.hid (fun h0 => by
          obtain ⟨x, e1, e2⟩ := PV.out h0
          exact (⟨x, e1, (G2.cell hb1).trans e2⟩ : ∃ x, s[k - 1]? = some x ∧ W2.cell? ⟨b, o + (k - 1) * 3, none⟩ = some (.string x.1)))
        have hb2 : b < W2.heap.size := Nat.lt_of_lt_of_le hb1 G2.size
        have GG := Lib.hid (hG.out.trans G2)
        have KV := Lib.hid (fun (w2 : World) (g : Gr W2 w2) => KV.out w2 (G2.trans g))
        have vb_ : Hid (varL t.1.data.toList = varB t.1) := rfl
        rw [vb_.out] at KN
        clear ht hs hts htv vb_ ON OF OB VV
        generalize t.1 = tv at *
        generalize t.2.nm = tn at *
        generalize t.2.args.length = ta at *
        generalize varB tv = vb at *
        generalize validT false 4 t.2 = vt at *
        go_upto_region 6 with fail
        rw [← hW2]
        clear hW2
        cases vb
        · go_cut [39] (fun s39 wx => s39 = .bool true ∧ Hid (Gr W2 wx))
          case first =>
            clear HR HB HN VI O0 NX BK NO PV KV
            go_quiet ((go_at_call 39; exact quiet_eq (KN.out _)))
            all_goals
              go_wp2_with fail
              go_meet
              exact ⟨rfl, Lib.hid (by first | exact Gr.drewN _ _ | exact Gr.drew _ | exact Gr.refl _)⟩
          case rest =>
            obtain ⟨rfl, G3⟩ := hcut
            have RF := Lib.hid (NO.out (fun hh => by have := (BK.out hh).1; simp at this))
            go_wp2_with fail
            go_ret
            exact ⟨ret_b RF.out.symm, GG.out.trans G3.out⟩
        · cases vt
          · go_cut [39] (fun s39 wx => s39 = .bool true ∧ Hid (Gr W2 wx))
            case first =>
              clear HR HB HN VI O0 NX BK NO PV
              have Hb : Hid (∀ w', Gr W2 w' → w'.cell? ⟨wr.heap.size, 0, none⟩ = some (.string tv) ∧ w'.cell? ⟨wr.heap.size, 1, none⟩ = some (.string tn) ∧ w'.cell? ⟨wr.heap.size, 2, none⟩ = some (.slice q ta d) ∧ Hid (Gr W2 w') ∧ W2.heap.size ≤ w'.heap.size) := Lib.hid (fun w' g => ⟨(g.cell hbx).trans y1, (g.cell hbx).trans y2, (g.cell hbx).trans y3, Lib.hid g, g.size⟩)
              have hs0 := Hb.out _ (gr_dr (Gr.refl W2))
              refine wp_region_held_drew (S := (fun w' => w'.cell? ⟨wr.heap.size, 0, none⟩ = some (.string tv) ∧ w'.cell? ⟨wr.heap.size, 1, none⟩ = some (.string tn) ∧ w'.cell? ⟨wr.heap.size, 2, none⟩ = some (.slice q ta d) ∧ Hid (Gr W2 w') ∧ W2.heap.size ≤ w'.heap.size)) (by kernel_rfl) hs0 (fun hHeld => ?_)
              refine wpAnyH_take (i := 0) (v := ?_) rfl (by kernel_rfl) (by kernel_rfl) (by kernel_rfl) (fun _ _ _ h => h) (Or.inl ⟨by rfl, ?_⟩) (by assumption) ?_
              rotate_left
              · intro w' hSw; (try dsimp only at hSw); (try simp only [List.getElem_toArray, List.getElem_cons_zero]); go_simp; try with_reducible rfl
              (try simp only [List.getElem_toArray, List.getElem_cons_zero, Act.put, List.setIfInBounds_toArray, List.set_cons_zero, List.set_cons_succ])
              refine wpAnyH_take (i := 1) (v := ?_) rfl (by kernel_rfl) (by kernel_rfl) (by kernel_rfl) (fun _ _ _ h => h) (Or.inl ⟨by rfl, ?_⟩) (by assumption) ?_
              rotate_left
              · intro w' hSw; (try dsimp only at hSw); (try simp only [List.getElem_toArray, List.getElem_cons_zero, List.getElem_cons_succ]); go_simp; try with_reducible rfl
              (try simp only [List.getElem_toArray, List.getElem_cons_zero, List.getElem_cons_succ, Act.put, List.setIfInBounds_toArray, List.set_cons_zero, List.set_cons_succ])
              refine wpAnyH_ready (rs := [2]) (by kernel_rfl) (by simp) ?_
              refine AllReadyH.cons rfl (fun K hK => ?_) AllReadyH.nil
              go_simp
              (try go_split_ands)
              go_at_call 39
              refine (KN.out _).mono ?_
              rintro e w' ⟨rfl, rfl⟩
              refine hK.out _ _ (Hb.out _ (by repeat (first | (with_reducible exact Hid.out (by assumption)) | (with_reducible exact Gr.refl _) | (with_reducible refine gr_dr ?_) | (with_reducible refine Gr.more ?_ _)))) (fun hHeld => ?_)
              clear hK K
              (try simp only [List.getElem_toArray, List.getElem_cons_zero, List.getElem_cons_succ, Act.put, List.setIfInBounds_toArray, List.set_cons_zero, List.set_cons_succ])
              refine wpAnyH_take (i := 3) (v := ?_) rfl (by kernel_rfl) (by kernel_rfl) (by kernel_rfl) (fun _ _ _ h => h) (Or.inl ⟨by rfl, ?_⟩) (by assumption) ?_
              rotate_left
              · intro w' hSw; (try dsimp only at hSw); (try simp only [List.getElem_toArray, List.getElem_cons_zero, List.getElem_cons_succ]); go_simp; try with_reducible rfl
              (try simp only [List.getElem_toArray, List.getElem_cons_zero, List.getElem_cons_succ, Act.put, List.setIfInBounds_toArray, List.set_cons_zero, List.set_cons_succ])
              refine wpAnyH_take (i := 4) (v := ?_) rfl (by kernel_rfl) (by kernel_rfl) (by kernel_rfl) (fun _ _ _ h => h) (Or.inl ⟨by rfl, ?_⟩) (by assumption) ?_
              rotate_left
              · intro w' hSw; (try dsimp only at hSw); (try simp only [List.getElem_toArray, List.getElem_cons_zero, List.getElem_cons_succ]); go_simp; try with_reducible rfl
              (try simp only [List.getElem_toArray, List.getElem_cons_zero, List.getElem_cons_succ, Act.put, List.setIfInBounds_toArray, List.set_cons_zero, List.set_cons_succ])
              refine wpAnyH_take (i := 5) (v := ?_) rfl (by kernel_rfl) (by kernel_rfl) (by kernel_rfl) (fun _ _ _ h => h) (Or.inl ⟨by rfl, ?_⟩) (by assumption) ?_
              rotate_left
              · intro w' hSw; (try dsimp only at hSw); (try simp only [List.getElem_toArray, List.getElem_cons_zero, List.getElem_cons_succ]); go_simp; try with_reducible rfl
              (try simp only [List.getElem_toArray, List.getElem_cons_zero, List.getElem_cons_succ, Act.put, List.setIfInBounds_toArray, List.set_cons_zero, List.set_cons_succ])
              refine wpAnyH_take (i := 6) (v := ?_) rfl (by kernel_rfl) (by kernel_rfl) (by kernel_rfl) (fun _ _ _ h => h) (Or.inl ⟨by rfl, ?_⟩) (by assumption) ?_
              rotate_left
              · intro w' hSw; (try dsimp only at hSw); (try simp only [List.getElem_toArray, List.getElem_cons_zero, List.getElem_cons_succ]); go_simp; try with_reducible rfl
              (try simp only [List.getElem_toArray, List.getElem_cons_zero, List.getElem_cons_succ, Act.put, List.setIfInBounds_toArray, List.set_cons_zero, List.set_cons_succ])
              refine wpAnyH_ready (rs := [7]) (by kernel_rfl) (by simp) ?_
              refine AllReadyH.cons rfl (fun K hK => ?_) AllReadyH.nil
              go_simp
              (try go_split_ands)
              go_at_call 40
              (try go_split_ands)
              (with_reducible refine (KV.out _ (by repeat (first | (with_reducible exact Hid.out (by assumption)) | (with_reducible exact Gr.refl _) | (with_reducible refine gr_dr ?_) | (with_reducible refine Gr.more ?_ _)))).mono ?_)
              rintro e w' ⟨rfl, q0⟩
              (have qg : Gr W2 w' := by (refine Gr.trans ?_ q0; repeat (first | (with_reducible exact Hid.out (by assumption)) | (with_reducible exact Gr.refl _) | (with_reducible refine gr_dr ?_) | (with_reducible refine Gr.more ?_ _))))
              clear q0
              refine hK.out _ _ (Hb.out _ qg) (fun hHeld => ?_)
              clear hK K
              (try simp only [List.getElem_toArray, List.getElem_cons_zero, List.getElem_cons_succ, Act.put, List.setIfInBounds_toArray, List.set_cons_zero, List.set_cons_succ])
              refine wpAnyH_take (i := 8) (v := ?_) rfl (by kernel_rfl) (by kernel_rfl) (by kernel_rfl) (fun _ _ _ h => h) (Or.inl ⟨by rfl, ?_⟩) (by assumption) ?_
              rotate_left
              · intro w' hSw; (try dsimp only at hSw); (try simp only [List.getElem_toArray, List.getElem_cons_zero, List.getElem_cons_succ]); go_simp; try with_reducible rfl
              (try simp only [List.getElem_toArray, List.getElem_cons_zero, List.getElem_cons_succ, Act.put, List.setIfInBounds_toArray, List.set_cons_zero, List.set_cons_succ])
              refine wpAnyH_take (i := 9) (v := ?_) rfl (by kernel_rfl) (by kernel_rfl) (by kernel_rfl) (fun _ _ _ h => h) (Or.inl ⟨by rfl, ?_⟩) (by assumption) ?_
              rotate_left
              · intro w' hSw; (try dsimp only at hSw); (try simp only [List.getElem_toArray, List.getElem_cons_zero, List.getElem_cons_succ]); go_simp; try with_reducible rfl
              (try simp only [List.getElem_toArray, List.getElem_cons_zero, List.getElem_cons_succ, Act.put, List.setIfInBounds_toArray, List.set_cons_zero, List.set_cons_succ])
              refine wpAnyH_take (i := 10) (v := ?_) rfl (by kernel_rfl) (by kernel_rfl) (by kernel_rfl) (fun _ _ _ h => h) (Or.inl ⟨by rfl, ?_⟩) (by assumption) ?_
              rotate_left
              · intro w' hSw; (try dsimp only at hSw); (try simp only [List.getElem_toArray, List.getElem_cons_zero, List.getElem_cons_succ]); go_simp; try with_reducible rfl
              (try simp only [List.getElem_toArray, List.getElem_cons_zero, List.getElem_cons_succ, Act.put, List.setIfInBounds_toArray, List.set_cons_zero, List.set_cons_succ])
              first
                | (refine wpAnyH_take (i := 11) (v := undef) rfl (by kernel_rfl) (by kernel_rfl) (by kernel_rfl) (fun _ _ _ h => h) (Or.inr ⟨by rfl, rfl⟩) (by assumption) ?_)
                | (refine wpAnyH_ready (rs := [11]) (by kernel_rfl) (by simp) ?_; refine AllReadyH.cons rfl (fun K hK => ?_) AllReadyH.nil; rw [if_neg (by decide)]; refine hK.out _ _ (by assumption) (fun hHeld => ?_); clear hK K)
              (try simp only [List.getElem_toArray, List.getElem_cons_zero, List.getElem_cons_succ, Act.put, List.setIfInBounds_toArray, List.set_cons_zero, List.set_cons_succ])
              first
                | (refine wpAnyH_take (i := 12) (v := undef) rfl (by kernel_rfl) (by kernel_rfl) (by kernel_rfl) (fun _ _ _ h => h) (Or.inr ⟨by rfl, rfl⟩) (by assumption) ?_)
                | (refine wpAnyH_ready (rs := [12]) (by kernel_rfl) (by simp) ?_; refine AllReadyH.cons rfl (fun K hK => ?_) AllReadyH.nil; rw [if_neg (by decide)]; refine hK.out _ _ (by assumption) (fun hHeld => ?_); clear hK K)
              (try simp only [List.getElem_toArray, List.getElem_cons_zero, List.getElem_cons_succ, Act.put, List.setIfInBounds_toArray, List.set_cons_zero, List.set_cons_succ])
              first
                | (refine wpAnyH_take (i := 13) (v := undef) rfl (by kernel_rfl) (by kernel_rfl) (by kernel_rfl) (fun _ _ _ h => h) (Or.inr ⟨by rfl, rfl⟩) (by assumption) ?_)
                | (refine wpAnyH_ready (rs := [13]) (by kernel_rfl) (by simp) ?_; refine AllReadyH.cons rfl (fun K hK => ?_) AllReadyH.nil; rw [if_neg (by decide)]; refine hK.out _ _ (by assumption) (fun hHeld => ?_); clear hK K)
              (try simp only [List.getElem_toArray, List.getElem_cons_zero, List.getElem_cons_succ, Act.put, List.setIfInBounds_toArray, List.set_cons_zero, List.set_cons_succ])
              first
                | (refine wpAnyH_take (i := 14) (v := undef) rfl (by kernel_rfl) (by kernel_rfl) (by kernel_rfl) (fun _ _ _ h => h) (Or.inr ⟨by rfl, rfl⟩) (by assumption) ?_)
                | (refine wpAnyH_ready (rs := [14]) (by kernel_rfl) (by simp) ?_; refine AllReadyH.cons rfl (fun K hK => ?_) AllReadyH.nil; rw [if_neg (by decide)]; refine hK.out _ _ (by assumption) (fun hHeld => ?_); clear hK K)
              (try simp only [List.getElem_toArray, List.getElem_cons_zero, List.getElem_cons_succ, Act.put, List.setIfInBounds_toArray, List.set_cons_zero, List.set_cons_succ])
              first
                | (refine wpAnyH_take (i := 15) (v := undef) rfl (by kernel_rfl) (by kernel_rfl) (by kernel_rfl) (fun _ _ _ h => h) (Or.inr ⟨by rfl, rfl⟩) (by assumption) ?_)
                | (refine wpAnyH_ready (rs := [15]) (by kernel_rfl) (by simp) ?_; refine AllReadyH.cons rfl (fun K hK => ?_) AllReadyH.nil; rw [if_neg (by decide)]; refine hK.out _ _ (by assumption) (fun hHeld => ?_); clear hK K)
              (try simp only [List.getElem_toArray, List.getElem_cons_zero, List.getElem_cons_succ, Act.put, List.setIfInBounds_toArray, List.set_cons_zero, List.set_cons_succ])
              first
                | (refine wpAnyH_take (i := 16) (v := undef) rfl (by kernel_rfl) (by kernel_rfl) (by kernel_rfl) (fun _ _ _ h => h) (Or.inr ⟨by rfl, rfl⟩) (by assumption) ?_)
                | (refine wpAnyH_ready (rs := [16]) (by kernel_rfl) (by simp) ?_; refine AllReadyH.cons rfl (fun K hK => ?_) AllReadyH.nil; rw [if_neg (by decide)]; refine hK.out _ _ (by assumption) (fun hHeld => ?_); clear hK K)
              (try simp only [List.getElem_toArray, List.getElem_cons_zero, List.getElem_cons_succ, Act.put, List.setIfInBounds_toArray, List.set_cons_zero, List.set_cons_succ])
              first
                | (refine wpAnyH_take (i := 17) (v := undef) rfl (by kernel_rfl) (by kernel_rfl) (by kernel_rfl) (fun _ _ _ h => h) (Or.inr ⟨by rfl, rfl⟩) (by assumption) ?_)
                | (refine wpAnyH_ready (rs := [17]) (by kernel_rfl) (by simp) ?_; refine AllReadyH.cons rfl (fun K hK => ?_) AllReadyH.nil; rw [if_neg (by decide)]; refine hK.out _ _ (by assumption) (fun hHeld => ?_); clear hK K)
              (try simp only [List.getElem_toArray, List.getElem_cons_zero, List.getElem_cons_succ, Act.put, List.setIfInBounds_toArray, List.set_cons_zero, List.set_cons_succ])
              first
                | (refine wpAnyH_take (i := 18) (v := undef) rfl (by kernel_rfl) (by kernel_rfl) (by kernel_rfl) (fun _ _ _ h => h) (Or.inr ⟨by rfl, rfl⟩) (by assumption) ?_)
                | (refine wpAnyH_ready (rs := [18]) (by kernel_rfl) (by simp) ?_; refine AllReadyH.cons rfl (fun K hK => ?_) AllReadyH.nil; rw [if_neg (by decide)]; refine hK.out _ _ (by assumption) (fun hHeld => ?_); clear hK K)
              (try simp only [List.getElem_toArray, List.getElem_cons_zero, List.getElem_cons_succ, Act.put, List.setIfInBounds_toArray, List.set_cons_zero, List.set_cons_succ])
              first
                | (refine wpAnyH_take (i := 19) (v := undef) rfl (by kernel_rfl) (by kernel_rfl) (by kernel_rfl) (fun _ _ _ h => h) (Or.inr ⟨by rfl, rfl⟩) (by assumption) ?_)
                | (refine wpAnyH_ready (rs := [19]) (by kernel_rfl) (by simp) ?_; refine AllReadyH.cons rfl (fun K hK => ?_) AllReadyH.nil; rw [if_neg (by decide)]; refine hK.out _ _ (by assumption) (fun hHeld => ?_); clear hK K)
              (try simp only [List.getElem_toArray, List.getElem_cons_zero, List.getElem_cons_succ, Act.put, List.setIfInBounds_toArray, List.set_cons_zero, List.set_cons_succ])
              first
                | (refine wpAnyH_take (i := 20) (v := undef) rfl (by kernel_rfl) (by kernel_rfl) (by kernel_rfl) (fun _ _ _ h => h) (Or.inr ⟨by rfl, rfl⟩) (by assumption) ?_)
                | (refine wpAnyH_ready (rs := [20]) (by kernel_rfl) (by simp) ?_; refine AllReadyH.cons rfl (fun K hK => ?_) AllReadyH.nil; rw [if_neg (by decide)]; refine hK.out _ _ (by assumption) (fun hHeld => ?_); clear hK K)
              (try simp only [List.getElem_toArray, List.getElem_cons_zero, List.getElem_cons_succ, Act.put, List.setIfInBounds_toArray, List.set_cons_zero, List.set_cons_succ])
              first
                | (refine wpAnyH_take (i := 21) (v := undef) rfl (by kernel_rfl) (by kernel_rfl) (by kernel_rfl) (fun _ _ _ h => h) (Or.inr ⟨by rfl, rfl⟩) (by assumption) ?_)
                | (refine wpAnyH_ready (rs := [21]) (by kernel_rfl) (by simp) ?_; refine AllReadyH.cons rfl (fun K hK => ?_) AllReadyH.nil; rw [if_neg (by decide)]; refine hK.out _ _ (by assumption) (fun hHeld => ?_); clear hK K)
              (try simp only [List.getElem_toArray, List.getElem_cons_zero, List.getElem_cons_succ, Act.put, List.setIfInBounds_toArray, List.set_cons_zero, List.set_cons_succ])
              first
                | (refine wpAnyH_take (i := 22) (v := undef) rfl (by kernel_rfl) (by kernel_rfl) (by kernel_rfl) (fun _ _ _ h => h) (Or.inr ⟨by rfl, rfl⟩) (by assumption) ?_)
                | (refine wpAnyH_ready (rs := [22]) (by kernel_rfl) (by simp) ?_; refine AllReadyH.cons rfl (fun K hK => ?_) AllReadyH.nil; rw [if_neg (by decide)]; refine hK.out _ _ (by assumption) (fun hHeld => ?_); clear hK K)
              (try simp only [List.getElem_toArray, List.getElem_cons_zero, List.getElem_cons_succ, Act.put, List.setIfInBounds_toArray, List.set_cons_zero, List.set_cons_succ])
              first
                | (refine wpAnyH_take (i := 23) (v := undef) rfl (by kernel_rfl) (by kernel_rfl) (by kernel_rfl) (fun _ _ _ h => h) (Or.inr ⟨by rfl, rfl⟩) (by assumption) ?_)
                | (refine wpAnyH_ready (rs := [23]) (by kernel_rfl) (by simp) ?_; refine AllReadyH.cons rfl (fun K hK => ?_) AllReadyH.nil; rw [if_neg (by decide)]; refine hK.out _ _ (by assumption) (fun hHeld => ?_); clear hK K)
              (try simp only [List.getElem_toArray, List.getElem_cons_zero, List.getElem_cons_succ, Act.put, List.setIfInBounds_toArray, List.set_cons_zero, List.set_cons_succ])
              refine wpAnyH_take (i := 24) (v := ?_) rfl (by kernel_rfl) (by kernel_rfl) (by kernel_rfl) (fun _ _ _ h => h) (Or.inl ⟨by rfl, ?_⟩) (by assumption) ?_
              rotate_left
              · intro w' hSw; (try dsimp only at hSw); (try simp only [List.getElem_toArray, List.getElem_cons_zero, List.getElem_cons_succ]); go_simp; try with_reducible rfl
              (try simp only [List.getElem_toArray, List.getElem_cons_zero, List.getElem_cons_succ, Act.put, List.setIfInBounds_toArray, List.set_cons_zero, List.set_cons_succ])
              refine wpAnyH_done (by kernel_rfl) ?_ _
              go_wp2_with fail
              go_meet
              exact ⟨rfl, Lib.hid qg⟩
            case rest =>
              obtain ⟨rfl, G3⟩ := hcut
              have RF := Lib.hid (NO.out (fun hh => by have := (BK.out hh).2.1; simp at this))
              go_wp2_with fail
              go_ret
              exact ⟨ret_b RF.out.symm, GG.out.trans G3.out⟩
          · by_cases hk0 : k = 0
            · subst hk0
              have hz : ¬ ((0 : Int) > 0) := by decide
              go_cut [39] (fun s39 wx => s39 = .bool false ∧ Hid (Gr W2 wx))
              case first =>
                clear HR HB HN VI O0 NX BK NO PV
                have Hb : Hid (∀ w', Gr W2 w' → w'.cell? ⟨wr.heap.size, 0, none⟩ = some (.string tv) ∧ w'.cell? ⟨wr.heap.size, 1, none⟩ = some (.string tn) ∧ w'.cell? ⟨wr.heap.size, 2, none⟩ = some (.slice q ta d) ∧ Hid (Gr W2 w') ∧ W2.heap.size ≤ w'.heap.size) := Lib.hid (fun w' g => ⟨(g.cell hbx).trans y1, (g.cell hbx).trans y2, (g.cell hbx).trans y3, Lib.hid g, g.size⟩)
                have hs0 := Hb.out _ (gr_dr (Gr.refl W2))
                refine wp_region_held_drew (S := (fun w' => w'.cell? ⟨wr.heap.size, 0, none⟩ = some (.string tv) ∧ w'.cell? ⟨wr.heap.size, 1, none⟩ = some (.string tn) ∧ w'.cell? ⟨wr.heap.size, 2, none⟩ = some (.slice q ta d) ∧ Hid (Gr W2 w') ∧ W2.heap.size ≤ w'.heap.size)) (by kernel_rfl) hs0 (fun hHeld => ?_)
                refine wpAnyH_take (i := 0) (v := ?_) rfl (by kernel_rfl) (by kernel_rfl) (by kernel_rfl) (fun _ _ _ h => h) (Or.inl ⟨by rfl, ?_⟩) (by assumption) ?_
                rotate_left
                · intro w' hSw; (try dsimp only at hSw); (try simp only [List.getElem_toArray, List.getElem_cons_zero]); go_simp; try with_reducible rfl
                (try simp only [List.getElem_toArray, List.getElem_cons_zero, Act.put, List.setIfInBounds_toArray, List.set_cons_zero, List.set_cons_succ])
                refine wpAnyH_take (i := 1) (v := ?_) rfl (by kernel_rfl) (by kernel_rfl) (by kernel_rfl) (fun _ _ _ h => h) (Or.inl ⟨by rfl, ?_⟩) (by assumption) ?_
                rotate_left
                · intro w' hSw; (try dsimp only at hSw); (try simp only [List.getElem_toArray, List.getElem_cons_zero, List.getElem_cons_succ]); go_simp; try with_reducible rfl
                (try simp only [List.getElem_toArray, List.getElem_cons_zero, List.getElem_cons_succ, Act.put, List.setIfInBounds_toArray, List.set_cons_zero, List.set_cons_succ])
                refine wpAnyH_ready (rs := [2]) (by kernel_rfl) (by simp) ?_
                refine AllReadyH.cons rfl (fun K hK => ?_) AllReadyH.nil
                go_simp
                (try go_split_ands)
                go_at_call 39
                refine (KN.out _).mono ?_
                rintro e w' ⟨rfl, rfl⟩
                refine hK.out _ _ (Hb.out _ (by repeat (first | (with_reducible exact Hid.out (by assumption)) | (with_reducible exact Gr.refl _) | (with_reducible refine gr_dr ?_) | (with_reducible refine Gr.more ?_ _)))) (fun hHeld => ?_)
                clear hK K
                (try simp only [List.getElem_toArray, List.getElem_cons_zero, List.getElem_cons_succ, Act.put, List.setIfInBounds_toArray, List.set_cons_zero, List.set_cons_succ])
                refine wpAnyH_take (i := 3) (v := ?_) rfl (by kernel_rfl) (by kernel_rfl) (by kernel_rfl) (fun _ _ _ h => h) (Or.inl ⟨by rfl, ?_⟩) (by assumption) ?_
                rotate_left
                · intro w' hSw; (try dsimp only at hSw); (try simp only [List.getElem_toArray, List.getElem_cons_zero, List.getElem_cons_succ]); go_simp; try with_reducible rfl
                (try simp only [List.getElem_toArray, List.getElem_cons_zero, List.getElem_cons_succ, Act.put, List.setIfInBounds_toArray, List.set_cons_zero, List.set_cons_succ])
                refine wpAnyH_take (i := 4) (v := ?_) rfl (by kernel_rfl) (by kernel_rfl) (by kernel_rfl) (fun _ _ _ h => h) (Or.inl ⟨by rfl, ?_⟩) (by assumption) ?_
                rotate_left
                · intro w' hSw; (try dsimp only at hSw); (try simp only [List.getElem_toArray, List.getElem_cons_zero, List.getElem_cons_succ]); go_simp; try with_reducible rfl
                (try simp only [List.getElem_toArray, List.getElem_cons_zero, List.getElem_cons_succ, Act.put, List.setIfInBounds_toArray, List.set_cons_zero, List.set_cons_succ])
                refine wpAnyH_take (i := 5) (v := ?_) rfl (by kernel_rfl) (by kernel_rfl) (by kernel_rfl) (fun _ _ _ h => h) (Or.inl ⟨by rfl, ?_⟩) (by assumption) ?_
                rotate_left
                · intro w' hSw; (try dsimp only at hSw); (try simp only [List.getElem_toArray, List.getElem_cons_zero, List.getElem_cons_succ]); go_simp; try with_reducible rfl
                (try simp only [List.getElem_toArray, List.getElem_cons_zero, List.getElem_cons_succ, Act.put, List.setIfInBounds_toArray, List.set_cons_zero, List.set_cons_succ])
                refine wpAnyH_take (i := 6) (v := ?_) rfl (by kernel_rfl) (by kernel_rfl) (by kernel_rfl) (fun _ _ _ h => h) (Or.inl ⟨by rfl, ?_⟩) (by assumption) ?_
                rotate_left
                · intro w' hSw; (try dsimp only at hSw); (try simp only [List.getElem_toArray, List.getElem_cons_zero, List.getElem_cons_succ]); go_simp; try with_reducible rfl
                (try simp only [List.getElem_toArray, List.getElem_cons_zero, List.getElem_cons_succ, Act.put, List.setIfInBounds_toArray, List.set_cons_zero, List.set_cons_succ])
                refine wpAnyH_ready (rs := [7]) (by kernel_rfl) (by simp) ?_
                refine AllReadyH.cons rfl (fun K hK => ?_) AllReadyH.nil
                go_simp
                (try go_split_ands)
                go_at_call 40
                (try go_split_ands)
                (with_reducible refine (KV.out _ (by repeat (first | (with_reducible exact Hid.out (by assumption)) | (with_reducible exact Gr.refl _) | (with_reducible refine gr_dr ?_) | (with_reducible refine Gr.more ?_ _)))).mono ?_)
                rintro e w' ⟨rfl, q0⟩
                (have qg : Gr W2 w' := by (refine Gr.trans ?_ q0; repeat (first | (with_reducible exact Hid.out (by assumption)) | (with_reducible exact Gr.refl _) | (with_reducible refine gr_dr ?_) | (with_reducible refine Gr.more ?_ _))))
                clear q0
                refine hK.out _ _ (Hb.out _ qg) (fun hHeld => ?_)
                clear hK K
                (try simp only [List.getElem_toArray, List.getElem_cons_zero, List.getElem_cons_succ, Act.put, List.setIfInBounds_toArray, List.set_cons_zero, List.set_cons_succ])
                refine wpAnyH_take (i := 8) (v := ?_) rfl (by kernel_rfl) (by kernel_rfl) (by kernel_rfl) (fun _ _ _ h => h) (Or.inl ⟨by rfl, ?_⟩) (by assumption) ?_
                rotate_left
                · intro w' hSw; (try dsimp only at hSw); (try simp only [List.getElem_toArray, List.getElem_cons_zero, List.getElem_cons_succ]); go_simp; try with_reducible rfl
                (try simp only [List.getElem_toArray, List.getElem_cons_zero, List.getElem_cons_succ, Act.put, List.setIfInBounds_toArray, List.set_cons_zero, List.set_cons_succ])
                refine wpAnyH_take (i := 9) (v := ?_) rfl (by kernel_rfl) (by kernel_rfl) (by kernel_rfl) (fun _ _ _ h => h) (Or.inl ⟨by rfl, ?_⟩) (by assumption) ?_
                rotate_left
                · intro w' hSw; (try dsimp only at hSw); (try simp only [List.getElem_toArray, List.getElem_cons_zero, List.getElem_cons_succ]); go_simp; try with_reducible rfl
                (try simp only [List.getElem_toArray, List.getElem_cons_zero, List.getElem_cons_succ, Act.put, List.setIfInBounds_toArray, List.set_cons_zero, List.set_cons_succ])
                refine wpAnyH_take (i := 10) (v := ?_) rfl (by kernel_rfl) (by kernel_rfl) (by kernel_rfl) (fun _ _ _ h => h) (Or.inl ⟨by rfl, ?_⟩) (by assumption) ?_
                rotate_left
                · intro w' hSw; (try dsimp only at hSw); (try simp only [List.getElem_toArray, List.getElem_cons_zero, List.getElem_cons_succ]); go_simp; try with_reducible rfl
                (try simp only [List.getElem_toArray, List.getElem_cons_zero, List.getElem_cons_succ, Act.put, List.setIfInBounds_toArray, List.set_cons_zero, List.set_cons_succ])
                refine wpAnyH_take (i := 11) (v := ?_) rfl (by kernel_rfl) (by kernel_rfl) (by kernel_rfl) (fun _ _ _ h => h) (Or.inl ⟨by rfl, ?_⟩) (by assumption) ?_
                rotate_left
                · intro w' hSw; (try dsimp only at hSw); (try simp only [List.getElem_toArray, List.getElem_cons_zero, List.getElem_cons_succ]); go_simp; try with_reducible rfl
                (try simp only [List.getElem_toArray, List.getElem_cons_zero, List.getElem_cons_succ, Act.put, List.setIfInBounds_toArray, List.set_cons_zero, List.set_cons_succ])
                refine wpAnyH_take (i := 12) (v := ?_) rfl (by kernel_rfl) (by kernel_rfl) (by kernel_rfl) (fun _ _ _ h => h) (Or.inl ⟨by rfl, ?_⟩) (by assumption) ?_
                rotate_left
                · intro w' hSw; (try dsimp only at hSw); (try simp only [List.getElem_toArray, List.getElem_cons_zero, List.getElem_cons_succ]); go_simp; try with_reducible rfl
                (try simp only [List.getElem_toArray, List.getElem_cons_zero, List.getElem_cons_succ, Act.put, List.setIfInBounds_toArray, List.set_cons_zero, List.set_cons_succ])
                refine wpAnyH_take (i := 13) (v := ?_) rfl (by kernel_rfl) (by kernel_rfl) (by kernel_rfl) (fun _ _ _ h => h) (Or.inl ⟨by rfl, ?_⟩) (by assumption) ?_
                rotate_left
                · intro w' hSw; (try dsimp only at hSw); (try simp only [List.getElem_toArray, List.getElem_cons_zero, List.getElem_cons_succ]); go_simp; try with_reducible rfl
                (try simp only [List.getElem_toArray, List.getElem_cons_zero, List.getElem_cons_succ, Act.put, List.setIfInBounds_toArray, List.set_cons_zero, List.set_cons_succ])
                first
                  | (refine wpAnyH_take (i := 14) (v := undef) rfl (by kernel_rfl) (by kernel_rfl) (by kernel_rfl) (fun _ _ _ h => h) (Or.inr ⟨by rfl, rfl⟩) (by assumption) ?_)
                  | (refine wpAnyH_ready (rs := [14]) (by kernel_rfl) (by simp) ?_; refine AllReadyH.cons rfl (fun K hK => ?_) AllReadyH.nil; rw [if_neg (by decide)]; refine hK.out _ _ (by assumption) (fun hHeld => ?_); clear hK K)
                (try simp only [List.getElem_toArray, List.getElem_cons_zero, List.getElem_cons_succ, Act.put, List.setIfInBounds_toArray, List.set_cons_zero, List.set_cons_succ])
                first
                  | (refine wpAnyH_take (i := 15) (v := undef) rfl (by kernel_rfl) (by kernel_rfl) (by kernel_rfl) (fun _ _ _ h => h) (Or.inr ⟨by rfl, rfl⟩) (by assumption) ?_)
                  | (refine wpAnyH_ready (rs := [15]) (by kernel_rfl) (by simp) ?_; refine AllReadyH.cons rfl (fun K hK => ?_) AllReadyH.nil; rw [if_neg (by decide)]; refine hK.out _ _ (by assumption) (fun hHeld => ?_); clear hK K)
                (try simp only [List.getElem_toArray, List.getElem_cons_zero, List.getElem_cons_succ, Act.put, List.setIfInBounds_toArray, List.set_cons_zero, List.set_cons_succ])
                first
                  | (refine wpAnyH_take (i := 16) (v := undef) rfl (by kernel_rfl) (by kernel_rfl) (by kernel_rfl) (fun _ _ _ h => h) (Or.inr ⟨by rfl, rfl⟩) (by assumption) ?_)
                  | (refine wpAnyH_ready (rs := [16]) (by kernel_rfl) (by simp) ?_; refine AllReadyH.cons rfl (fun K hK => ?_) AllReadyH.nil; rw [if_neg (by decide)]; refine hK.out _ _ (by assumption) (fun hHeld => ?_); clear hK K)
                (try simp only [List.getElem_toArray, List.getElem_cons_zero, List.getElem_cons_succ, Act.put, List.setIfInBounds_toArray, List.set_cons_zero, List.set_cons_succ])
                first
                  | (refine wpAnyH_take (i := 17) (v := undef) rfl (by kernel_rfl) (by kernel_rfl) (by kernel_rfl) (fun _ _ _ h => h) (Or.inr ⟨by rfl, rfl⟩) (by assumption) ?_)
                  | (refine wpAnyH_ready (rs := [17]) (by kernel_rfl) (by simp) ?_; refine AllReadyH.cons rfl (fun K hK => ?_) AllReadyH.nil; rw [if_neg (by decide)]; refine hK.out _ _ (by assumption) (fun hHeld => ?_); clear hK K)
                (try simp only [List.getElem_toArray, List.getElem_cons_zero, List.getElem_cons_succ, Act.put, List.setIfInBounds_toArray, List.set_cons_zero, List.set_cons_succ])
                first
                  | (refine wpAnyH_take (i := 18) (v := undef) rfl (by kernel_rfl) (by kernel_rfl) (by kernel_rfl) (fun _ _ _ h => h) (Or.inr ⟨by rfl, rfl⟩) (by assumption) ?_)
                  | (refine wpAnyH_ready (rs := [18]) (by kernel_rfl) (by simp) ?_; refine AllReadyH.cons rfl (fun K hK => ?_) AllReadyH.nil; rw [if_neg (by decide)]; refine hK.out _ _ (by assumption) (fun hHeld => ?_); clear hK K)
                (try simp only [List.getElem_toArray, List.getElem_cons_zero, List.getElem_cons_succ, Act.put, List.setIfInBounds_toArray, List.set_cons_zero, List.set_cons_succ])
                first
                  | (refine wpAnyH_take (i := 19) (v := undef) rfl (by kernel_rfl) (by kernel_rfl) (by kernel_rfl) (fun _ _ _ h => h) (Or.inr ⟨by rfl, rfl⟩) (by assumption) ?_)
                  | (refine wpAnyH_ready (rs := [19]) (by kernel_rfl) (by simp) ?_; refine AllReadyH.cons rfl (fun K hK => ?_) AllReadyH.nil; rw [if_neg (by decide)]; refine hK.out _ _ (by assumption) (fun hHeld => ?_); clear hK K)
                (try simp only [List.getElem_toArray, List.getElem_cons_zero, List.getElem_cons_succ, Act.put, List.setIfInBounds_toArray, List.set_cons_zero, List.set_cons_succ])
                first
                  | (refine wpAnyH_take (i := 20) (v := undef) rfl (by kernel_rfl) (by kernel_rfl) (by kernel_rfl) (fun _ _ _ h => h) (Or.inr ⟨by rfl, rfl⟩) (by assumption) ?_)
                  | (refine wpAnyH_ready (rs := [20]) (by kernel_rfl) (by simp) ?_; refine AllReadyH.cons rfl (fun K hK => ?_) AllReadyH.nil; rw [if_neg (by decide)]; refine hK.out _ _ (by assumption) (fun hHeld => ?_); clear hK K)
                (try simp only [List.getElem_toArray, List.getElem_cons_zero, List.getElem_cons_succ, Act.put, List.setIfInBounds_toArray, List.set_cons_zero, List.set_cons_succ])
                first
                  | (refine wpAnyH_take (i := 21) (v := undef) rfl (by kernel_rfl) (by kernel_rfl) (by kernel_rfl) (fun _ _ _ h => h) (Or.inr ⟨by rfl, rfl⟩) (by assumption) ?_)
                  | (refine wpAnyH_ready (rs := [21]) (by kernel_rfl) (by simp) ?_; refine AllReadyH.cons rfl (fun K hK => ?_) AllReadyH.nil; rw [if_neg (by decide)]; refine hK.out _ _ (by assumption) (fun hHeld => ?_); clear hK K)
                (try simp only [List.getElem_toArray, List.getElem_cons_zero, List.getElem_cons_succ, Act.put, List.setIfInBounds_toArray, List.set_cons_zero, List.set_cons_succ])
                first
                  | (refine wpAnyH_take (i := 22) (v := undef) rfl (by kernel_rfl) (by kernel_rfl) (by kernel_rfl) (fun _ _ _ h => h) (Or.inr ⟨by rfl, rfl⟩) (by assumption) ?_)
                  | (refine wpAnyH_ready (rs := [22]) (by kernel_rfl) (by simp) ?_; refine AllReadyH.cons rfl (fun K hK => ?_) AllReadyH.nil; rw [if_neg (by decide)]; refine hK.out _ _ (by assumption) (fun hHeld => ?_); clear hK K)
                (try simp only [List.getElem_toArray, List.getElem_cons_zero, List.getElem_cons_succ, Act.put, List.setIfInBounds_toArray, List.set_cons_zero, List.set_cons_succ])
                refine wpAnyH_take (i := 23) (v := ?_) rfl (by kernel_rfl) (by kernel_rfl) (by kernel_rfl) (fun _ _ _ h => h) (Or.inl ⟨by rfl, ?_⟩) (by assumption) ?_
                rotate_left
                · intro w' hSw; (try dsimp only at hSw); (try simp only [List.getElem_toArray, List.getElem_cons_zero, List.getElem_cons_succ]); go_simp; try with_reducible rfl
                (try simp only [List.getElem_toArray, List.getElem_cons_zero, List.getElem_cons_succ, Act.put, List.setIfInBounds_toArray, List.set_cons_zero, List.set_cons_succ])
                refine wpAnyH_take (i := 24) (v := ?_) rfl (by kernel_rfl) (by kernel_rfl) (by kernel_rfl) (fun _ _ _ h => h) (Or.inl ⟨by rfl, ?_⟩) (by assumption) ?_
                rotate_left
                · intro w' hSw; (try dsimp only at hSw); (try simp only [List.getElem_toArray, List.getElem_cons_zero, List.getElem_cons_succ]); go_simp; try with_reducible rfl
                (try simp only [List.getElem_toArray, List.getElem_cons_zero, List.getElem_cons_succ, Act.put, List.setIfInBounds_toArray, List.set_cons_zero, List.set_cons_succ])
                refine wpAnyH_done (by kernel_rfl) ?_ _
                go_wp2_with fail
                go_meet
                exact ⟨rfl, Lib.hid qg⟩
              case rest =>
                obtain ⟨rfl, G3⟩ := hcut
                go_wp2_with fail
                go_roundw
                case rel => exact ⟨0 + 1, by omega, by go_num, Lib.hid (GG.out.trans G3.out), Lib.hid (NX.out rfl rfl (fun x h0 _ => absurd h0 (by decide)))⟩
                case measure => simp [intOf] <;> omega
            · obtain ⟨x, hx, p1⟩ := PV.out (by omega)
              have HX := Lib.hid hx
              obtain ⟨z, hz⟩ : ∃ z, ltB x.1 tv = z := ⟨_, rfl⟩
              have HZ := Lib.hid hz
              unfold ltB at hz
              rw [← ByteArray.toList_eq, ← ByteArray.toList_eq] at hz
              generalize hpv : x.1 = pv at *
              have HP := Lib.hid hpv
              clear hx hpv
              have i1 : (0 : Int) ≤ (k : Int) - 1 := by omega
              have i2 : ((k : Int) - 1).toNat = k - 1 := by omega
              have i3 : (k : Int) - 1 < n := by omega
              have i6 : 0 < k := by omega
              have i7 : (1 : Int) ≤ (k : Int) := by omega
              have i8 : 1 ≤ k := by omega
              have i9 : (k : Int) ≤ (n : Int) := by omega
              have i4 : decide (0 < k) = true := by simp; omega
              have i5 : IntKind.i64.wrap ((k : Int) - 1) = (k : Int) - 1 := IntWalk.i64_in _ (by omega)
              go_cut [39] (fun s39 wx => s39 = .bool (!z) ∧ Hid (Gr W2 wx))
              case first =>
                clear HR HB HN VI O0 NX BK NO PV HX HZ HP
                have Hb : Hid (∀ w', Gr W2 w' → w'.cell? ⟨wr.heap.size, 0, none⟩ = some (.string tv) ∧ w'.cell? ⟨wr.heap.size, 1, none⟩ = some (.string tn) ∧ w'.cell? ⟨wr.heap.size, 2, none⟩ = some (.slice q ta d) ∧ w'.cell? ⟨b, o + (k - 1) * 3, none⟩ = some (.string pv) ∧ Hid (Gr W2 w') ∧ W2.heap.size ≤ w'.heap.size) := Lib.hid (fun w' g => ⟨(g.cell hbx).trans y1, (g.cell hbx).trans y2, (g.cell hbx).trans y3, (g.cell hb2).trans p1, Lib.hid g, g.size⟩)
                have hs0 := Hb.out _ (gr_dr (Gr.refl W2))
                go_region_held3 (fun w' => w'.cell? ⟨wr.heap.size, 0, none⟩ = some (.string tv) ∧ w'.cell? ⟨wr.heap.size, 1, none⟩ = some (.string tn) ∧ w'.cell? ⟨wr.heap.size, 2, none⟩ = some (.slice q ta d) ∧ w'.cell? ⟨b, o + (k - 1) * 3, none⟩ = some (.string pv) ∧ Hid (Gr W2 w') ∧ W2.heap.size ≤ w'.heap.size)
                  (first | (with_reducible assumption) | (with_reducible exact ⟨‹_›, ‹_›, ‹_›, ‹_›, ‹_›, ‹_›⟩) | (with_reducible refine Hb.out _ ?_; repeat (first | (with_reducible exact Hid.out (by assumption)) | (with_reducible exact Gr.refl _) | (with_reducible refine gr_dr ?_) | (with_reducible refine Gr.more ?_ _))))
                  (first | (go_at_call 39; (try go_split_ands); refine (KN.out _).mono ?_; rintro e w' ⟨rfl, rfl⟩) | (go_at_call 40; (try go_split_ands); (with_reducible refine (KV.out _ (by repeat (first | (with_reducible exact Hid.out (by assumption)) | (with_reducible exact Gr.refl _) | (with_reducible refine gr_dr ?_) | (with_reducible refine Gr.more ?_ _)))).mono ?_); rintro e w' ⟨rfl, q0⟩; (have qg : Gr W2 w' := by (refine Gr.trans ?_ q0; repeat (first | (with_reducible exact Hid.out (by assumption)) | (with_reducible exact Gr.refl _) | (with_reducible refine gr_dr ?_) | (with_reducible refine Gr.more ?_ _)))); clear q0; obtain ⟨z1, z2, z3, z4, z5, z6⟩ := Hb.out _ qg))
                all_goals
                  go_wp2_with fail
                  go_meet
                  exact ⟨rfl, Lib.hid qg⟩
              case rest =>
                clear i1 i2 i3 i4 i5 i6 i7 i8 i9 hz
                obtain ⟨rfl, G3⟩ := hcut
                cases z
                · have RF := Lib.hid (NO.out (fun hh => by
                    have h2 := (BK.out hh).2.2 x (by omega) HX.out
                    rw [HP.out, HZ.out] at h2
                    cases h2))
                  go_wp2_with fail
                  go_ret
                  exact ⟨ret_b RF.out.symm, GG.out.trans G3.out⟩
                · go_wp2_with fail
                  go_roundw
                  case rel => exact ⟨k + 1, by omega, by go_num, Lib.hid (GG.out.trans G3.out), Lib.hid (NX.out rfl rfl (fun y _ hy => by have e := hy.symm.trans HX.out; injection e with e; subst e; rw [HP.out]; exact HZ.out))⟩
                  case measure => simp [intOf] <;> omega
      · obtain rfl : k = n := by omega
        have RF : Hid (R = true) := Lib.hid (VI.out.2 ⟨by omega, hO.out⟩)
        go_wp2_with fail
        go_ret
        exact ⟨ret_b RF.out.symm, hG.out⟩
end UniA
end Go.Proofs.YtihbnonbhelbmaaGreatDoor
