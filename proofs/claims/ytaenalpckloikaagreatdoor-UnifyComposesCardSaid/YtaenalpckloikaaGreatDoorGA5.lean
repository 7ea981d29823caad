/- Texts laid together: UniA; UniC. Their own heads stand before each. -/
import Derived.Test.YtaenalpckloikaaGreatDoorGA4
import Derived.Test.YtaenalpckloikaaGreatDoorGA3
import Derived.Test.YtaenalpckloikaaGreatDoorGA2
import Derived.IntWalk
import Derived.BigQuiet
import Derived.Deep.RegionHeld3
import Derived.Deep.DeepCutAuto
import Derived.Deep.RegionWith
/- Valid of substitutions, code and reference; made by genunia.py. No conditions on sizes. -/
namespace Go.Proofs.YtaenalpckloikaaGreatDoor
open Go Go.RowKit
namespace UniA
open LexM TermM TermI Kit TermN TermU UniK UniM
theorem gr_dr {a b : World} (h : Gr a b) : Gr a b.drew := h.trans (Gr.drew b)
theorem three {w : World} {g : Nat} {a b c : Value} (h : Has w g #[a, b, c]) : w.cell? ⟨g, 0, none⟩ = some a ∧ w.cell? ⟨g, 1, none⟩ = some b ∧ w.cell? ⟨g, 2, none⟩ = some c := ⟨h.cell 0, h.cell 1, h.cell 2⟩
theorem quiet_eq {P : Program} {f : FuncId} {args : Array Value} {w : World} {n : Nat} {v : Value}
    (h : Calls P f args (w.drewN n) fun e w' => e = .returned v ∧ w.drewN n = w') : Calls P f args (w.drewN n) fun e w'' => e = .returned v ∧ ∃ m, w'' = w.drewN m :=
  h.mono fun _ _ ⟨he, hm⟩ => ⟨he, n, hm.symm⟩
theorem ret_b {a b : Bool} (h : a = b) : Ending.returned (.bool a) = .returned (.bool b) := by rw [h]
/-- The first k bindings are as they should be. -/
def okS (s : List Bd) (k : Nat) : Prop := (∀ j t, j < k → s[j]? = some t → varB t.1 = true ∧ validT false 4 t.2 = true) ∧ ∀ j a b, j + 1 < k → s[j]? = some a → s[j + 1]? = some b → ltB a.1 b.1 = true
theorem ok_zero (s : List Bd) : okS s 0 := ⟨fun _ _ h => absurd h (Nat.not_lt_zero _), fun _ _ _ h => absurd h (Nat.not_lt_zero _)⟩
theorem ok_le {s : List Bd} {n k : Nat} (h : okS s n) (hk : k ≤ n) : okS s k := ⟨fun j t hj => h.1 j t (by omega), fun j a b hj => h.2 j a b (by omega)⟩
theorem ok_next {s : List Bd} {k : Nat} {t : Bd} (ht : s[k]? = some t) (h : okS s k) (h1 : varB t.1 = true) (h2 : validT false 4 t.2 = true) (h3 : ∀ x, 0 < k → s[k - 1]? = some x → ltB x.1 t.1 = true) : okS s (k + 1) := by
  refine ⟨fun j x hj hx => ?_, fun j a b hj ha hb => ?_⟩
  · by_cases e : j = k
    · subst e; rw [ht] at hx; cases hx; exact ⟨h1, h2⟩
    · exact h.1 j x (by omega) hx
  · by_cases e : j + 1 = k
    · subst e; rw [ht] at hb; cases hb; exact h3 a (by omega) (by simpa using ha)
    · exact h.2 j a b (by omega) ha hb
theorem ok_back {s : List Bd} {k : Nat} {t : Bd} (ht : s[k]? = some t) (h : okS s (k + 1)) : varB t.1 = true ∧ validT false 4 t.2 = true ∧ ∀ x, 0 < k → s[k - 1]? = some x → ltB x.1 t.1 = true :=
  ⟨(h.1 k t (by omega) ht).1, (h.1 k t (by omega) ht).2, fun x h0 hx => h.2 (k - 1) x t (by omega) hx (by rw [show k - 1 + 1 = k by omega]; exact ht)⟩
theorem asc_iff : ∀ s : List Bd, ascB s = true ↔ ∀ j a b, s[j]? = some a → s[j + 1]? = some b → ltB a.1 b.1 = true
  | [] => ⟨fun _ j a b h => by simp at h, fun _ => rfl⟩
  | [x] => ⟨fun _ j a b _ h => by simp at h, fun _ => rfl⟩
  | x :: y :: r => by
    rw [ascB, Bool.and_eq_true, asc_iff (y :: r)]
    constructor
    · rintro ⟨h1, h2⟩ j a b ha hb
      cases j with
      | zero => simp at ha hb; subst ha hb; exact h1
      | succ j => exact h2 j a b (by simpa using ha) (by simpa using hb)
    · intro h
      exact ⟨h 0 x y rfl rfl, fun j a b ha hb => h (j + 1) a b (by simpa using ha) (by simpa using hb)⟩
theorem vld_iff (s : List Bd) : vldS s = true ↔ s.length ≤ 64 ∧ okS s s.length := by
  unfold vldS okS
  rw [Bool.and_eq_true, Bool.and_eq_true, decide_eq_true_eq, List.all_eq_true, asc_iff]
  constructor
  · rintro ⟨h1, h2, h3⟩
    refine ⟨h1, fun j t _ ht => ?_, fun j a b _ ha hb => h3 j a b ha hb⟩
    have := h2 t (List.mem_of_getElem? ht)
    rwa [Bool.and_eq_true] at this
  · rintro ⟨h1, h2, h3⟩
    refine ⟨h1, fun t ht => ?_, fun j a b ha hb => h3 j a b ?_ ha hb⟩
    · obtain ⟨j, hj⟩ := List.mem_iff_getElem?.1 ht
      rw [Bool.and_eq_true]
      exact h2 j t (List.getElem?_eq_some_iff.1 hj).1 hj
    · exact (List.getElem?_eq_some_iff.1 hb).1
set_option maxRecDepth 100000 in
set_option maxHeartbeats 6400000 in
theorem cvalid_any (s : List Bd) (B : Nat) (w : World) (v : Value) (hB : B ≤ w.heap.size) (h : SIn (· < B) w s v) :
    Calls Tryz.prog 15 #[v] w fun e w' => e = .returned (.bool (vldS s)) ∧ Gr w w' := by
  obtain ⟨p, c, rfl, hc, hm, hR⟩ := SIn.row h
  have hlm : s.length ≤ maxLen := Nat.le_trans hc hm
  unfold maxLen at hlm
  have VI := Lib.hid (vld_iff s)
  by_cases h64 : 64 < s.length
  · have h64' : (64 : Int) < s.length := by omega
    have HF : Hid (vldS s = false) := Lib.hid (by rw [Bool.eq_false_iff]; intro hh; have := (VI.out.1 hh).1; omega)
    generalize vldS s = R at *
    obtain rfl := HF.out
    clear h hR hc hm HF VI
    generalize s.length = n at *
    go_enter Tryz.func15, Tryz.ntmps15
    go_wp2_with fail
    go_ret
    exact ⟨rfl, Gr.refl _⟩
  · have h64' : ¬ (64 : Int) < s.length := by omega
    have HR := Lib.hid hR
    have HB := Lib.hid hB
    have O0 : Hid (okS s 0) := Lib.hid (ok_zero s)
    have ON := Lib.hid (fun k t (ht : s[k]? = some t) (h : okS s k) => ok_next (k := k) (t := t) ht h)
    have OF := Lib.hid (fun k t (ht : s[k]? = some t) (h : okS s (k + 1)) => ok_back (k := k) (t := t) ht h)
    have OB := Lib.hid (fun k (h : okS s s.length) (hk : k ≤ s.length) => ok_le (s := s) h hk)
    have VV := Lib.hid (fun (t : Tm) (w' : World) (v : Value) (hw : B ≤ w'.heap.size) (hs : t.nm.size ≤ maxLen) (h : SlIn (· < B) w' t.args v) => TermV.valid_any t B w' v hw hs h)
    have hn64 : s.length ≤ 64 := by omega
    clear h hR hB hc hm
    generalize vldS s = R at *
    generalize hln : s.length = n at *
    have HN := Lib.hid hln
    clear hln
    go_enter Tryz.func15, Tryz.ntmps15
    go_wp2_with fail
    go_loopw [10] (fun i wL => ∃ k : Nat, k ≤ n ∧ i = .int .i64 k ∧ Hid (Gr w wL) ∧ Hid (okS s k)) (fun i _ => n - (intOf i).toNat)
    case atStart => exact ⟨0, by omega, rfl, Lib.hid (Gr.refl _), O0⟩
    case round =>
      obtain ⟨k, hk, rfl, hG, hO⟩ := hrel
      by_cases hlt : k < n
      · obtain ⟨t, b, o, q, d, ht, rfl, hb, c1, c2, c3, hs, hts, htv⟩ := (RowS.gr HR.out hG.out HB.out) k (by rw [HN.out]; exact hlt)
        have NX := Lib.hid (ON.out k t ht hO.out)
        have BK := Lib.hid (fun h => OF.out k t ht h)
        have NO : Hid (¬ okS s (k + 1) → R = false) := Lib.hid (fun hh => by
          rw [Bool.eq_false_iff]
          intro hr
          exact hh (OB.out (k + 1) (VI.out.1 hr).2 (by omega)))
        have PV : Hid (0 < k → ∃ x, s[k - 1]? = some x ∧ wr.cell? ⟨b, o + (k - 1) * 3, none⟩ = some (.string x.1)) := Lib.hid (fun h0 => by
          obtain ⟨x, b', o', q', d', hx, he, hb', e1, _⟩ := (RowS.gr HR.out hG.out HB.out) (k - 1) (by rw [HN.out]; omega)
          injection he with he
          injection he with e3 e4
          subst e3 e4
          exact ⟨x, hx, e1⟩)
        have hb1 : b < wr.heap.size := Nat.lt_of_lt_of_le hb (Nat.le_trans HB.out hG.out.size)
        have KV := Lib.hid (fun (w2 : World) (g : Gr wr w2) => VV.out t.2 w2 _ (Nat.le_trans HB.out (Nat.le_trans hG.out.size g.size)) hts (hs.gr g (Nat.le_trans HB.out hG.out.size)))
        have KN := Lib.hid (fun w2 => TermC.var_any t.1 w2 htv)
        have C1 := Lib.hid c1
        obtain ⟨W2, hW2⟩ : ∃ W2, W2 = wr.alloc (.cells #[.string t.1, .string t.2.nm, .slice q t.2.args.length d] 52) := ⟨_, rfl⟩
        have G2 : Gr wr W2 := by rw [hW2]; exact Gr.alloc _ _
        have hbx : wr.heap.size < W2.heap.size := by rw [hW2]; simp
        obtain ⟨y1, y2, y3⟩ := three (show Has W2 wr.heap.size #[.string t.1, .string t.2.nm, .slice q t.2.args.length d] by rw [hW2]; exact Has.new _ _ _)
        have PV := Lib.hid (fun h0 => by
          obtain ⟨x, e1, e2⟩ := PV.out h0
          exact (⟨x, e1, (G2.cell hb1).trans e2⟩ : ∃ x, s[k - 1]? = some x ∧ W2.cell? ⟨b, o + (k - 1) * 3, none⟩ = some (.string x.1)))
        have hb2 : b < W2.heap.size := Nat.lt_of_lt_of_le hb1 G2.size
        have GG := Lib.hid (hG.out.trans G2)
        have KV := Lib.hid (fun (w2 : World) (g : Gr W2 w2) => KV.out w2 (G2.trans g))
        have vb_ : Hid (varL t.1.data.toList = varB t.1) := rfl
        rw [vb_.out] at KN
        clear ht hs hts htv vb_ ON OF OB VV
        generalize t.1 = tv at *
        generalize t.2.nm = tn at *
        generalize t.2.args.length = ta at *
        generalize varB tv = vb at *
        generalize validT false 4 t.2 = vt at *
        go_upto_region 6 with fail
        rw [← hW2]
        clear hW2
        cases vb
        · go_cut [39] (fun s39 wx => s39 = .bool true ∧ Hid (Gr W2 wx))
          case first =>
            clear HR HB HN VI O0 NX BK NO PV KV
            go_quiet ((go_at_call 39; exact quiet_eq (KN.out _)))
            all_goals
              go_wp2_with fail
              go_meet
              exact ⟨rfl, Lib.hid (by first | exact Gr.drewN _ _ | exact Gr.drew _ | exact Gr.refl _)⟩
          case rest =>
            obtain ⟨rfl, G3⟩ := hcut
            have RF := Lib.hid (NO.out (fun hh => by have := (BK.out hh).1; simp at this))
            go_wp2_with fail
            go_ret
            exact ⟨ret_b RF.out.symm, GG.out.trans G3.out⟩
        · cases vt
          · go_cut [39] (fun s39 wx => s39 = .bool true ∧ Hid (Gr W2 wx))
            case first =>
              clear HR HB HN VI O0 NX BK NO PV
              have Hb : Hid (∀ w', Gr W2 w' → w'.cell? ⟨wr.heap.size, 0, none⟩ = some (.string tv) ∧ w'.cell? ⟨wr.heap.size, 1, none⟩ = some (.string tn) ∧ w'.cell? ⟨wr.heap.size, 2, none⟩ = some (.slice q ta d) ∧ Hid (Gr W2 w') ∧ W2.heap.size ≤ w'.heap.size) := Lib.hid (fun w' g => ⟨(g.cell hbx).trans y1, (g.cell hbx).trans y2, (g.cell hbx).trans y3, Lib.hid g, g.size⟩)
              have hs0 := Hb.out _ (gr_dr (Gr.refl W2))
              refine wp_region_held_drew (S := (fun w' => w'.cell? ⟨wr.heap.size, 0, none⟩ = some (.string tv) ∧ w'.cell? ⟨wr.heap.size, 1, none⟩ = some (.string tn) ∧ w'.cell? ⟨wr.heap.size, 2, none⟩ = some (.slice q ta d) ∧ Hid (Gr W2 w') ∧ W2.heap.size ≤ w'.heap.size)) (by kernel_rfl) hs0 (fun hHeld => ?_)
              refine wpAnyH_take (i := 0) (v := ?_) rfl (by kernel_rfl) (by kernel_rfl) (by kernel_rfl) (fun _ _ _ h => h) (Or.inl ⟨by rfl, ?_⟩) (by assumption) ?_
              rotate_left
              · intro w' hSw; (try dsimp only at hSw); (try simp only [List.getElem_toArray, List.getElem_cons_zero]); go_simp; try with_reducible rfl
              (try simp only [List.getElem_toArray, List.getElem_cons_zero, Act.put, List.setIfInBounds_toArray, List.set_cons_zero, List.set_cons_succ])
              refine wpAnyH_take (i := 1) (v := ?_) rfl (by kernel_rfl) (by kernel_rfl) (by kernel_rfl) (fun _ _ _ h => h) (Or.inl ⟨by rfl, ?_⟩) (by assumption) ?_
              rotate_left
              · intro w' hSw; (try dsimp only at hSw); (try simp only [List.getElem_toArray, List.getElem_cons_zero, List.getElem_cons_succ]); go_simp; try with_reducible rfl
              (try simp only [List.getElem_toArray, List.getElem_cons_zero, List.getElem_cons_succ, Act.put, List.setIfInBounds_toArray, List.set_cons_zero, List.set_cons_succ])
              refine wpAnyH_ready (rs := [2]) (by kernel_rfl) (by simp) ?_
              refine AllReadyH.cons rfl (fun K hK => ?_) AllReadyH.nil
              go_simp
              (try go_split_ands)
              go_at_call 39
              refine (KN.out _).mono ?_
              rintro e w' ⟨rfl, rfl⟩
              refine hK.out _ _ (Hb.out _ (by repeat (first | (with_reducible exact Hid.out (by assumption)) | (with_reducible exact Gr.refl _) | (with_reducible refine gr_dr ?_) | (with_reducible refine Gr.more ?_ _)))) (fun hHeld => ?_)
              clear hK K
              (try simp only [List.getElem_toArray, List.getElem_cons_zero, List.getElem_cons_succ, Act.put, List.setIfInBounds_toArray, List.set_cons_zero, List.set_cons_succ])
              refine wpAnyH_take (i := 3) (v := ?_) rfl (by kernel_rfl) (by kernel_rfl) (by kernel_rfl) (fun _ _ _ h => h) (Or.inl ⟨by rfl, ?_⟩) (by assumption) ?_
              rotate_left
              · intro w' hSw; (try dsimp only at hSw); (try simp only [List.getElem_toArray, List.getElem_cons_zero, List.getElem_cons_succ]); go_simp; try with_reducible rfl
              (try simp only [List.getElem_toArray, List.getElem_cons_zero, List.getElem_cons_succ, Act.put, List.setIfInBounds_toArray, List.set_cons_zero, List.set_cons_succ])
              refine wpAnyH_take (i := 4) (v := ?_) rfl (by kernel_rfl) (by kernel_rfl) (by kernel_rfl) (fun _ _ _ h => h) (Or.inl ⟨by rfl, ?_⟩) (by assumption) ?_
              rotate_left
              · intro w' hSw; (try dsimp only at hSw); (try simp only [List.getElem_toArray, List.getElem_cons_zero, List.getElem_cons_succ]); go_simp; try with_reducible rfl
              (try simp only [List.getElem_toArray, List.getElem_cons_zero, List.getElem_cons_succ, Act.put, List.setIfInBounds_toArray, List.set_cons_zero, List.set_cons_succ])
              refine wpAnyH_take (i := 5) (v := ?_) rfl (by kernel_rfl) (by kernel_rfl) (by kernel_rfl) (fun _ _ _ h => h) (Or.inl ⟨by rfl, ?_⟩) (by assumption) ?_
              rotate_left
              · intro w' hSw; (try dsimp only at hSw); (try simp only [List.getElem_toArray, List.getElem_cons_zero, List.getElem_cons_succ]); go_simp; try with_reducible rfl
              (try simp only [List.getElem_toArray, List.getElem_cons_zero, List.getElem_cons_succ, Act.put, List.setIfInBounds_toArray, List.set_cons_zero, List.set_cons_succ])
              refine wpAnyH_take (i := 6) (v := ?_) rfl (by kernel_rfl) (by kernel_rfl) (by kernel_rfl) (fun _ _ _ h => h) (Or.inl ⟨by rfl, ?_⟩) (by assumption) ?_
              rotate_left
              · intro w' hSw; (try dsimp only at hSw); (try simp only [List.getElem_toArray, List.getElem_cons_zero, List.getElem_cons_succ]); go_simp; try with_reducible rfl
              (try simp only [List.getElem_toArray, List.getElem_cons_zero, List.getElem_cons_succ, Act.put, List.setIfInBounds_toArray, List.set_cons_zero, List.set_cons_succ])
              refine wpAnyH_ready (rs := [7]) (by kernel_rfl) (by simp) ?_
              refine AllReadyH.cons rfl (fun K hK => ?_) AllReadyH.nil
              go_simp
              (try go_split_ands)
              go_at_call 40
              (try go_split_ands)
              (with_reducible refine (KV.out _ (by repeat (first | (with_reducible exact Hid.out (by assumption)) | (with_reducible exact Gr.refl _) | (with_reducible refine gr_dr ?_) | (with_reducible refine Gr.more ?_ _)))).mono ?_)
              rintro e w' ⟨rfl, q0⟩
              (have qg : Gr W2 w' := by (refine Gr.trans ?_ q0; repeat (first | (with_reducible exact Hid.out (by assumption)) | (with_reducible exact Gr.refl _) | (with_reducible refine gr_dr ?_) | (with_reducible refine Gr.more ?_ _))))
              clear q0
              refine hK.out _ _ (Hb.out _ qg) (fun hHeld => ?_)
              clear hK K
              (try simp only [List.getElem_toArray, List.getElem_cons_zero, List.getElem_cons_succ, Act.put, List.setIfInBounds_toArray, List.set_cons_zero, List.set_cons_succ])
              refine wpAnyH_take (i := 8) (v := ?_) rfl (by kernel_rfl) (by kernel_rfl) (by kernel_rfl) (fun _ _ _ h => h) (Or.inl ⟨by rfl, ?_⟩) (by assumption) ?_
              rotate_left
              · intro w' hSw; (try dsimp only at hSw); (try simp only [List.getElem_toArray, List.getElem_cons_zero, List.getElem_cons_succ]); go_simp; try with_reducible rfl
              (try simp only [List.getElem_toArray, List.getElem_cons_zero, List.getElem_cons_succ, Act.put, List.setIfInBounds_toArray, List.set_cons_zero, List.set_cons_succ])
              refine wpAnyH_take (i := 9) (v := ?_) rfl (by kernel_rfl) (by kernel_rfl) (by kernel_rfl) (fun _ _ _ h => h) (Or.inl ⟨by rfl, ?_⟩) (by assumption) ?_
              rotate_left
              · intro w' hSw; (try dsimp only at hSw); (try simp only [List.getElem_toArray, List.getElem_cons_zero, List.getElem_cons_succ]); go_simp; try with_reducible rfl
              (try simp only [List.getElem_toArray, List.getElem_cons_zero, List.getElem_cons_succ, Act.put, List.setIfInBounds_toArray, List.set_cons_zero, List.set_cons_succ])
              refine wpAnyH_take (i := 10) (v := ?_) rfl (by kernel_rfl) (by kernel_rfl) (by kernel_rfl) (fun _ _ _ h => h) (Or.inl ⟨by rfl, ?_⟩) (by assumption) ?_
              rotate_left
              · intro w' hSw; (try dsimp only at hSw); (try simp only [List.getElem_toArray, List.getElem_cons_zero, List.getElem_cons_succ]); go_simp; try with_reducible rfl
              (try simp only [List.getElem_toArray, List.getElem_cons_zero, List.getElem_cons_succ, Act.put, List.setIfInBounds_toArray, List.set_cons_zero, List.set_cons_succ])
              first
                | (refine wpAnyH_take (i := 11) (v := undef) rfl (by kernel_rfl) (by kernel_rfl) (by kernel_rfl) (fun _ _ _ h => h) (Or.inr ⟨by rfl, rfl⟩) (by assumption) ?_)
                | (refine wpAnyH_ready (rs := [11]) (by kernel_rfl) (by simp) ?_; refine AllReadyH.cons rfl (fun K hK => ?_) AllReadyH.nil; rw [if_neg (by decide)]; refine hK.out _ _ (by assumption) (fun hHeld => ?_); clear hK K)
              (try simp only [List.getElem_toArray, List.getElem_cons_zero, List.getElem_cons_succ, Act.put, List.setIfInBounds_toArray, List.set_cons_zero, List.set_cons_succ])
              first
                | (refine wpAnyH_take (i := 12) (v := undef) rfl (by kernel_rfl) (by kernel_rfl) (by kernel_rfl) (fun _ _ _ h => h) (Or.inr ⟨by rfl, rfl⟩) (by assumption) ?_)
                | (refine wpAnyH_ready (rs := [12]) (by kernel_rfl) (by simp) ?_; refine AllReadyH.cons rfl (fun K hK => ?_) AllReadyH.nil; rw [if_neg (by decide)]; refine hK.out _ _ (by assumption) (fun hHeld => ?_); clear hK K)
              (try simp only [List.getElem_toArray, List.getElem_cons_zero, List.getElem_cons_succ, Act.put, List.setIfInBounds_toArray, List.set_cons_zero, List.set_cons_succ])
              first
                | (refine wpAnyH_take (i := 13) (v := undef) rfl (by kernel_rfl) (by kernel_rfl) (by kernel_rfl) (fun _ _ _ h => h) (Or.inr ⟨by rfl, rfl⟩) (by assumption) ?_)
                | (refine wpAnyH_ready (rs := [13]) (by kernel_rfl) (by simp) ?_; refine AllReadyH.cons rfl (fun K hK => ?_) AllReadyH.nil; rw [if_neg (by decide)]; refine hK.out _ _ (by assumption) (fun hHeld => ?_); clear hK K)
              (try simp only [List.getElem_toArray, List.getElem_cons_zero, List.getElem_cons_succ, Act.put, List.setIfInBounds_toArray, List.set_cons_zero, List.set_cons_succ])
              first
                | (refine wpAnyH_take (i := 14) (v := undef) rfl (by kernel_rfl) (by kernel_rfl) (by kernel_rfl) (fun _ _ _ h => h) (Or.inr ⟨by rfl, rfl⟩) (by assumption) ?_)
                | (refine wpAnyH_ready (rs := [14]) (by kernel_rfl) (by simp) ?_; refine AllReadyH.cons rfl (fun K hK => ?_) AllReadyH.nil; rw [if_neg (by decide)]; refine hK.out _ _ (by assumption) (fun hHeld => ?_); clear hK K)
              (try simp only [List.getElem_toArray, List.getElem_cons_zero, List.getElem_cons_succ, Act.put, List.setIfInBounds_toArray, List.set_cons_zero, List.set_cons_succ])
              first
                | (refine wpAnyH_take (i := 15) (v := undef) rfl (by kernel_rfl) (by kernel_rfl) (by kernel_rfl) (fun _ _ _ h => h) (Or.inr ⟨by rfl, rfl⟩) (by assumption) ?_)
                | (refine wpAnyH_ready (rs := [15]) (by kernel_rfl) (by simp) ?_; refine AllReadyH.cons rfl (fun K hK => ?_) AllReadyH.nil; rw [if_neg (by decide)]; refine hK.out _ _ (by assumption) (fun hHeld => ?_); clear hK K)
              (try simp only [List.getElem_toArray, List.getElem_cons_zero, List.getElem_cons_succ, Act.put, List.setIfInBounds_toArray, List.set_cons_zero, List.set_cons_succ])
              first
                | (refine wpAnyH_take (i := 16) (v := undef) rfl (by kernel_rfl) (by kernel_rfl) (by kernel_rfl) (fun _ _ _ h => h) (Or.inr ⟨by rfl, rfl⟩) (by assumption) ?_)
                | (refine wpAnyH_ready (rs := [16]) (by kernel_rfl) (by simp) ?_; refine AllReadyH.cons rfl (fun K hK => ?_) AllReadyH.nil; rw [if_neg (by decide)]; refine hK.out _ _ (by assumption) (fun hHeld => ?_); clear hK K)
              (try simp only [List.getElem_toArray, List.getElem_cons_zero, List.getElem_cons_succ, Act.put, List.setIfInBounds_toArray, List.set_cons_zero, List.set_cons_succ])
              first
                | (refine wpAnyH_take (i := 17) (v := undef) rfl (by kernel_rfl) (by kernel_rfl) (by kernel_rfl) (fun _ _ _ h => h) (Or.inr ⟨by rfl, rfl⟩) (by assumption) ?_)
                | (refine wpAnyH_ready (rs := [17]) (by kernel_rfl) (by simp) ?_; refine AllReadyH.cons rfl (fun K hK => ?_) AllReadyH.nil; rw [if_neg (by decide)]; refine hK.out _ _ (by assumption) (fun hHeld => ?_); clear hK K)
              (try simp only [List.getElem_toArray, List.getElem_cons_zero, List.getElem_cons_succ, Act.put, List.setIfInBounds_toArray, List.set_cons_zero, List.set_cons_succ])
              first
                | (refine wpAnyH_take (i := 18) (v := undef) rfl (by kernel_rfl) (by kernel_rfl) (by kernel_rfl) (fun _ _ _ h => h) (Or.inr ⟨by rfl, rfl⟩) (by assumption) ?_)
                | (refine wpAnyH_ready (rs := [18]) (by kernel_rfl) (by simp) ?_; refine AllReadyH.cons rfl (fun K hK => ?_) AllReadyH.nil; rw [if_neg (by decide)]; refine hK.out _ _ (by assumption) (fun hHeld => ?_); clear hK K)
              (try simp only [List.getElem_toArray, List.getElem_cons_zero, List.getElem_cons_succ, Act.put, List.setIfInBounds_toArray, List.set_cons_zero, List.set_cons_succ])
              first
                | (refine wpAnyH_take (i := 19) (v := undef) rfl (by kernel_rfl) (by kernel_rfl) (by kernel_rfl) (fun _ _ _ h => h) (Or.inr ⟨by rfl, rfl⟩) (by assumption) ?_)
                | (refine wpAnyH_ready (rs := [19]) (by kernel_rfl) (by simp) ?_; refine AllReadyH.cons rfl (fun K hK => ?_) AllReadyH.nil; rw [if_neg (by decide)]; refine hK.out _ _ (by assumption) (fun hHeld => ?_); clear hK K)
              (try simp only [List.getElem_toArray, List.getElem_cons_zero, List.getElem_cons_succ, Act.put, List.setIfInBounds_toArray, List.set_cons_zero, List.set_cons_succ])
              first
                | (refine wpAnyH_take (i := 20) (v := undef) rfl (by kernel_rfl) (by kernel_rfl) (by kernel_rfl) (fun _ _ _ h => h) (Or.inr ⟨by rfl, rfl⟩) (by assumption) ?_)
                | (refine wpAnyH_ready (rs := [20]) (by kernel_rfl) (by simp) ?_; refine AllReadyH.cons rfl (fun K hK => ?_) AllReadyH.nil; rw [if_neg (by decide)]; refine hK.out _ _ (by assumption) (fun hHeld => ?_); clear hK K)
              (try simp only [List.getElem_toArray, List.getElem_cons_zero, List.getElem_cons_succ, Act.put, List.setIfInBounds_toArray, List.set_cons_zero, List.set_cons_succ])
              first
                | (refine wpAnyH_take (i := 21) (v := undef) rfl (by kernel_rfl) (by kernel_rfl) (by kernel_rfl) (fun _ _ _ h => h) (Or.inr ⟨by rfl, rfl⟩) (by assumption) ?_)
                | (refine wpAnyH_ready (rs := [21]) (by kernel_rfl) (by simp) ?_; refine AllReadyH.cons rfl (fun K hK => ?_) AllReadyH.nil; rw [if_neg (by decide)]; refine hK.out _ _ (by assumption) (fun hHeld => ?_); clear hK K)
              (try simp only [List.getElem_toArray, List.getElem_cons_zero, List.getElem_cons_succ, Act.put, List.setIfInBounds_toArray, List.set_cons_zero, List.set_cons_succ])
              first
                | (refine wpAnyH_take (i := 22) (v := undef) rfl (by kernel_rfl) (by kernel_rfl) (by kernel_rfl) (fun _ _ _ h => h) (Or.inr ⟨by rfl, rfl⟩) (by assumption) ?_)
                | (refine wpAnyH_ready (rs := [22]) (by kernel_rfl) (by simp) ?_; refine AllReadyH.cons rfl (fun K hK => ?_) AllReadyH.nil; rw [if_neg (by decide)]; refine hK.out _ _ (by assumption) (fun hHeld => ?_); clear hK K)
              (try simp only [List.getElem_toArray, List.getElem_cons_zero, List.getElem_cons_succ, Act.put, List.setIfInBounds_toArray, List.set_cons_zero, List.set_cons_succ])
              first
                | (refine wpAnyH_take (i := 23) (v := undef) rfl (by kernel_rfl) (by kernel_rfl) (by kernel_rfl) (fun _ _ _ h => h) (Or.inr ⟨by rfl, rfl⟩) (by assumption) ?_)
                | (refine wpAnyH_ready (rs := [23]) (by kernel_rfl) (by simp) ?_; refine AllReadyH.cons rfl (fun K hK => ?_) AllReadyH.nil; rw [if_neg (by decide)]; refine hK.out _ _ (by assumption) (fun hHeld => ?_); clear hK K)
              (try simp only [List.getElem_toArray, List.getElem_cons_zero, List.getElem_cons_succ, Act.put, List.setIfInBounds_toArray, List.set_cons_zero, List.set_cons_succ])
              refine wpAnyH_take (i := 24) (v := ?_) rfl (by kernel_rfl) (by kernel_rfl) (by kernel_rfl) (fun _ _ _ h => h) (Or.inl ⟨by rfl, ?_⟩) (by assumption) ?_
              rotate_left
              · intro w' hSw; (try dsimp only at hSw); (try simp only [List.getElem_toArray, List.getElem_cons_zero, List.getElem_cons_succ]); go_simp; try with_reducible rfl
              (try simp only [List.getElem_toArray, List.getElem_cons_zero, List.getElem_cons_succ, Act.put, List.setIfInBounds_toArray, List.set_cons_zero, List.set_cons_succ])
              refine wpAnyH_done (by kernel_rfl) ?_ _
              go_wp2_with fail
              go_meet
              exact ⟨rfl, Lib.hid qg⟩
            case rest =>
              obtain ⟨rfl, G3⟩ := hcut
              have RF := Lib.hid (NO.out (fun hh => by have := (BK.out hh).2.1; simp at this))
              go_wp2_with fail
              go_ret
              exact ⟨ret_b RF.out.symm, GG.out.trans G3.out⟩
          · by_cases hk0 : k = 0
            · subst hk0
              have hz : ¬ ((0 : Int) > 0) := by decide
              go_cut [39] (fun s39 wx => s39 = .bool false ∧ Hid (Gr W2 wx))
              case first =>
                clear HR HB HN VI O0 NX BK NO PV
                have Hb : Hid (∀ w', Gr W2 w' → w'.cell? ⟨wr.heap.size, 0, none⟩ = some (.string tv) ∧ w'.cell? ⟨wr.heap.size, 1, none⟩ = some (.string tn) ∧ w'.cell? ⟨wr.heap.size, 2, none⟩ = some (.slice q ta d) ∧ Hid (Gr W2 w') ∧ W2.heap.size ≤ w'.heap.size) := Lib.hid (fun w' g => ⟨(g.cell hbx).trans y1, (g.cell hbx).trans y2, (g.cell hbx).trans y3, Lib.hid g, g.size⟩)
                have hs0 := Hb.out _ (gr_dr (Gr.refl W2))
                refine wp_region_held_drew (S := (fun w' => w'.cell? ⟨wr.heap.size, 0, none⟩ = some (.string tv) ∧ w'.cell? ⟨wr.heap.size, 1, none⟩ = some (.string tn) ∧ w'.cell? ⟨wr.heap.size, 2, none⟩ = some (.slice q ta d) ∧ Hid (Gr W2 w') ∧ W2.heap.size ≤ w'.heap.size)) (by kernel_rfl) hs0 (fun hHeld => ?_)
                refine wpAnyH_take (i := 0) (v := ?_) rfl (by kernel_rfl) (by kernel_rfl) (by kernel_rfl) (fun _ _ _ h => h) (Or.inl ⟨by rfl, ?_⟩) (by assumption) ?_
                rotate_left
                · intro w' hSw; (try dsimp only at hSw); (try simp only [List.getElem_toArray, List.getElem_cons_zero]); go_simp; try with_reducible rfl
                (try simp only [List.getElem_toArray, List.getElem_cons_zero, Act.put, List.setIfInBounds_toArray, List.set_cons_zero, List.set_cons_succ])
                refine wpAnyH_take (i := 1) (v := ?_) rfl (by kernel_rfl) (by kernel_rfl) (by kernel_rfl) (fun _ _ _ h => h) (Or.inl ⟨by rfl, ?_⟩) (by assumption) ?_
                rotate_left
                · intro w' hSw; (try dsimp only at hSw); (try simp only [List.getElem_toArray, List.getElem_cons_zero, List.getElem_cons_succ]); go_simp; try with_reducible rfl
                (try simp only [List.getElem_toArray, List.getElem_cons_zero, List.getElem_cons_succ, Act.put, List.setIfInBounds_toArray, List.set_cons_zero, List.set_cons_succ])
                refine wpAnyH_ready (rs := [2]) (by kernel_rfl) (by simp) ?_
                refine AllReadyH.cons rfl (fun K hK => ?_) AllReadyH.nil
                go_simp
                (try go_split_ands)
                go_at_call 39
                refine (KN.out _).mono ?_
                rintro e w' ⟨rfl, rfl⟩
                refine hK.out _ _ (Hb.out _ (by repeat (first | (with_reducible exact Hid.out (by assumption)) | (with_reducible exact Gr.refl _) | (with_reducible refine gr_dr ?_) | (with_reducible refine Gr.more ?_ _)))) (fun hHeld => ?_)
                clear hK K
                (try simp only [List.getElem_toArray, List.getElem_cons_zero, List.getElem_cons_succ, Act.put, List.setIfInBounds_toArray, List.set_cons_zero, List.set_cons_succ])
                refine wpAnyH_take (i := 3) (v := ?_) rfl (by kernel_rfl) (by kernel_rfl) (by kernel_rfl) (fun _ _ _ h => h) (Or.inl ⟨by rfl, ?_⟩) (by assumption) ?_
                rotate_left
                · intro w' hSw; (try dsimp only at hSw); (try simp only [List.getElem_toArray, List.getElem_cons_zero, List.getElem_cons_succ]); go_simp; try with_reducible rfl
                (try simp only [List.getElem_toArray, List.getElem_cons_zero, List.getElem_cons_succ, Act.put, List.setIfInBounds_toArray, List.set_cons_zero, List.set_cons_succ])
                refine wpAnyH_take (i := 4) (v := ?_) rfl (by kernel_rfl) (by kernel_rfl) (by kernel_rfl) (fun _ _ _ h => h) (Or.inl ⟨by rfl, ?_⟩) (by assumption) ?_
                rotate_left
                · intro w' hSw; (try dsimp only at hSw); (try simp only [List.getElem_toArray, List.getElem_cons_zero, List.getElem_cons_succ]); go_simp; try with_reducible rfl
                (try simp only [List.getElem_toArray, List.getElem_cons_zero, List.getElem_cons_succ, Act.put, List.setIfInBounds_toArray, List.set_cons_zero, List.set_cons_succ])
                refine wpAnyH_take (i := 5) (v := ?_) rfl (by kernel_rfl) (by kernel_rfl) (by kernel_rfl) (fun _ _ _ h => h) (Or.inl ⟨by rfl, ?_⟩) (by assumption) ?_
                rotate_left
                · intro w' hSw; (try dsimp only at hSw); (try simp only [List.getElem_toArray, List.getElem_cons_zero, List.getElem_cons_succ]); go_simp; try with_reducible rfl
                (try simp only [List.getElem_toArray, List.getElem_cons_zero, List.getElem_cons_succ, Act.put, List.setIfInBounds_toArray, List.set_cons_zero, List.set_cons_succ])
                refine wpAnyH_take (i := 6) (v := ?_) rfl (by kernel_rfl) (by kernel_rfl) (by kernel_rfl) (fun _ _ _ h => h) (Or.inl ⟨by rfl, ?_⟩) (by assumption) ?_
                rotate_left
                · intro w' hSw; (try dsimp only at hSw); (try simp only [List.getElem_toArray, List.getElem_cons_zero, List.getElem_cons_succ]); go_simp; try with_reducible rfl
                (try simp only [List.getElem_toArray, List.getElem_cons_zero, List.getElem_cons_succ, Act.put, List.setIfInBounds_toArray, List.set_cons_zero, List.set_cons_succ])
                refine wpAnyH_ready (rs := [7]) (by kernel_rfl) (by simp) ?_
                refine AllReadyH.cons rfl (fun K hK => ?_) AllReadyH.nil
                go_simp
                (try go_split_ands)
                go_at_call 40
                (try go_split_ands)
                (with_reducible refine (KV.out _ (by repeat (first | (with_reducible exact Hid.out (by assumption)) | (with_reducible exact Gr.refl _) | (with_reducible refine gr_dr ?_) | (with_reducible refine Gr.more ?_ _)))).mono ?_)
                rintro e w' ⟨rfl, q0⟩
                (have qg : Gr W2 w' := by (refine Gr.trans ?_ q0; repeat (first | (with_reducible exact Hid.out (by assumption)) | (with_reducible exact Gr.refl _) | (with_reducible refine gr_dr ?_) | (with_reducible refine Gr.more ?_ _))))
                clear q0
                refine hK.out _ _ (Hb.out _ qg) (fun hHeld => ?_)
                clear hK K
                (try simp only [List.getElem_toArray, List.getElem_cons_zero, List.getElem_cons_succ, Act.put, List.setIfInBounds_toArray, List.set_cons_zero, List.set_cons_succ])
                refine wpAnyH_take (i := 8) (v := ?_) rfl (by kernel_rfl) (by kernel_rfl) (by kernel_rfl) (fun _ _ _ h => h) (Or.inl ⟨by rfl, ?_⟩) (by assumption) ?_
                rotate_left
                · intro w' hSw; (try dsimp only at hSw); (try simp only [List.getElem_toArray, List.getElem_cons_zero, List.getElem_cons_succ]); go_simp; try with_reducible rfl
                (try simp only [List.getElem_toArray, List.getElem_cons_zero, List.getElem_cons_succ, Act.put, List.setIfInBounds_toArray, List.set_cons_zero, List.set_cons_succ])
                refine wpAnyH_take (i := 9) (v := ?_) rfl (by kernel_rfl) (by kernel_rfl) (by kernel_rfl) (fun _ _ _ h => h) (Or.inl ⟨by rfl, ?_⟩) (by assumption) ?_
                rotate_left
                · intro w' hSw; (try dsimp only at hSw); (try simp only [List.getElem_toArray, List.getElem_cons_zero, List.getElem_cons_succ]); go_simp; try with_reducible rfl
                (try simp only [List.getElem_toArray, List.getElem_cons_zero, List.getElem_cons_succ, Act.put, List.setIfInBounds_toArray, List.set_cons_zero, List.set_cons_succ])
                refine wpAnyH_take (i := 10) (v := ?_) rfl (by kernel_rfl) (by kernel_rfl) (by kernel_rfl) (fun _ _ _ h => h) (Or.inl ⟨by rfl, ?_⟩) (by assumption) ?_
                rotate_left
                · intro w' hSw; (try dsimp only at hSw); (try simp only [List.getElem_toArray, List.getElem_cons_zero, List.getElem_cons_succ]); go_simp; try with_reducible rfl
                (try simp only [List.getElem_toArray, List.getElem_cons_zero, List.getElem_cons_succ, Act.put, List.setIfInBounds_toArray, List.set_cons_zero, List.set_cons_succ])
                refine wpAnyH_take (i := 11) (v := ?_) rfl (by kernel_rfl) (by kernel_rfl) (by kernel_rfl) (fun _ _ _ h => h) (Or.inl ⟨by rfl, ?_⟩) (by assumption) ?_
                rotate_left
                · intro w' hSw; (try dsimp only at hSw); (try simp only [List.getElem_toArray, List.getElem_cons_zero, List.getElem_cons_succ]); go_simp; try with_reducible rfl
                (try simp only [List.getElem_toArray, List.getElem_cons_zero, List.getElem_cons_succ, Act.put, List.setIfInBounds_toArray, List.set_cons_zero, List.set_cons_succ])
                refine wpAnyH_take (i := 12) (v := ?_) rfl (by kernel_rfl) (by kernel_rfl) (by kernel_rfl) (fun _ _ _ h => h) (Or.inl ⟨by rfl, ?_⟩) (by assumption) ?_
                rotate_left
                · intro w' hSw; (try dsimp only at hSw); (try simp only [List.getElem_toArray, List.getElem_cons_zero, List.getElem_cons_succ]); go_simp; try with_reducible rfl
                (try simp only [List.getElem_toArray, List.getElem_cons_zero, List.getElem_cons_succ, Act.put, List.setIfInBounds_toArray, List.set_cons_zero, List.set_cons_succ])
                refine wpAnyH_take (i := 13) (v := ?_) rfl (by kernel_rfl) (by kernel_rfl) (by kernel_rfl) (fun _ _ _ h => h) (Or.inl ⟨by rfl, ?_⟩) (by assumption) ?_
                rotate_left
                · intro w' hSw; (try dsimp only at hSw); (try simp only [List.getElem_toArray, List.getElem_cons_zero, List.getElem_cons_succ]); go_simp; try with_reducible rfl
                (try simp only [List.getElem_toArray, List.getElem_cons_zero, List.getElem_cons_succ, Act.put, List.setIfInBounds_toArray, List.set_cons_zero, List.set_cons_succ])
                first
                  | (refine wpAnyH_take (i := 14) (v := undef) rfl (by kernel_rfl) (by kernel_rfl) (by kernel_rfl) (fun _ _ _ h => h) (Or.inr ⟨by rfl, rfl⟩) (by assumption) ?_)
                  | (refine wpAnyH_ready (rs := [14]) (by kernel_rfl) (by simp) ?_; refine AllReadyH.cons rfl (fun K hK => ?_) AllReadyH.nil; rw [if_neg (by decide)]; refine hK.out _ _ (by assumption) (fun hHeld => ?_); clear hK K)
                (try simp only [List.getElem_toArray, List.getElem_cons_zero, List.getElem_cons_succ, Act.put, List.setIfInBounds_toArray, List.set_cons_zero, List.set_cons_succ])
                first
                  | (refine wpAnyH_take (i := 15) (v := undef) rfl (by kernel_rfl) (by kernel_rfl) (by kernel_rfl) (fun _ _ _ h => h) (Or.inr ⟨by rfl, rfl⟩) (by assumption) ?_)
                  | (refine wpAnyH_ready (rs := [15]) (by kernel_rfl) (by simp) ?_; refine AllReadyH.cons rfl (fun K hK => ?_) AllReadyH.nil; rw [if_neg (by decide)]; refine hK.out _ _ (by assumption) (fun hHeld => ?_); clear hK K)
                (try simp only [List.getElem_toArray, List.getElem_cons_zero, List.getElem_cons_succ, Act.put, List.setIfInBounds_toArray, List.set_cons_zero, List.set_cons_succ])
                first
                  | (refine wpAnyH_take (i := 16) (v := undef) rfl (by kernel_rfl) (by kernel_rfl) (by kernel_rfl) (fun _ _ _ h => h) (Or.inr ⟨by rfl, rfl⟩) (by assumption) ?_)
                  | (refine wpAnyH_ready (rs := [16]) (by kernel_rfl) (by simp) ?_; refine AllReadyH.cons rfl (fun K hK => ?_) AllReadyH.nil; rw [if_neg (by decide)]; refine hK.out _ _ (by assumption) (fun hHeld => ?_); clear hK K)
                (try simp only [List.getElem_toArray, List.getElem_cons_zero, List.getElem_cons_succ, Act.put, List.setIfInBounds_toArray, List.set_cons_zero, List.set_cons_succ])
                first
                  | (refine wpAnyH_take (i := 17) (v := undef) rfl (by kernel_rfl) (by kernel_rfl) (by kernel_rfl) (fun _ _ _ h => h) (Or.inr ⟨by rfl, rfl⟩) (by assumption) ?_)
                  | (refine wpAnyH_ready (rs := [17]) (by kernel_rfl) (by simp) ?_; refine AllReadyH.cons rfl (fun K hK => ?_) AllReadyH.nil; rw [if_neg (by decide)]; refine hK.out _ _ (by assumption) (fun hHeld => ?_); clear hK K)
                (try simp only [List.getElem_toArray, List.getElem_cons_zero, List.getElem_cons_succ, Act.put, List.setIfInBounds_toArray, List.set_cons_zero, List.set_cons_succ])
                first
                  | (refine wpAnyH_take (i := 18) (v := undef) rfl (by kernel_rfl) (by kernel_rfl) (by kernel_rfl) (fun _ _ _ h => h) (Or.inr ⟨by rfl, rfl⟩) (by assumption) ?_)
                  | (refine wpAnyH_ready (rs := [18]) (by kernel_rfl) (by simp) ?_; refine AllReadyH.cons rfl (fun K hK => ?_) AllReadyH.nil; rw [if_neg (by decide)]; refine hK.out _ _ (by assumption) (fun hHeld => ?_); clear hK K)
                (try simp only [List.getElem_toArray, List.getElem_cons_zero, List.getElem_cons_succ, Act.put, List.setIfInBounds_toArray, List.set_cons_zero, List.set_cons_succ])
                first
                  | (refine wpAnyH_take (i := 19) (v := undef) rfl (by kernel_rfl) (by kernel_rfl) (by kernel_rfl) (fun _ _ _ h => h) (Or.inr ⟨by rfl, rfl⟩) (by assumption) ?_)
                  | (refine wpAnyH_ready (rs := [19]) (by kernel_rfl) (by simp) ?_; refine AllReadyH.cons rfl (fun K hK => ?_) AllReadyH.nil; rw [if_neg (by decide)]; refine hK.out _ _ (by assumption) (fun hHeld => ?_); clear hK K)
                (try simp only [List.getElem_toArray, List.getElem_cons_zero, List.getElem_cons_succ, Act.put, List.setIfInBounds_toArray, List.set_cons_zero, List.set_cons_succ])
                first
                  | (refine wpAnyH_take (i := 20) (v := undef) rfl (by kernel_rfl) (by kernel_rfl) (by kernel_rfl) (fun _ _ _ h => h) (Or.inr ⟨by rfl, rfl⟩) (by assumption) ?_)
                  | (refine wpAnyH_ready (rs := [20]) (by kernel_rfl) (by simp) ?_; refine AllReadyH.cons rfl (fun K hK => ?_) AllReadyH.nil; rw [if_neg (by decide)]; refine hK.out _ _ (by assumption) (fun hHeld => ?_); clear hK K)
                (try simp only [List.getElem_toArray, List.getElem_cons_zero, List.getElem_cons_succ, Act.put, List.setIfInBounds_toArray, List.set_cons_zero, List.set_cons_succ])
                first
                  | (refine wpAnyH_take (i := 21) (v := undef) rfl (by kernel_rfl) (by kernel_rfl) (by kernel_rfl) (fun _ _ _ h => h) (Or.inr ⟨by rfl, rfl⟩) (by assumption) ?_)
                  | (refine wpAnyH_ready (rs := [21]) (by kernel_rfl) (by simp) ?_; refine AllReadyH.cons rfl (fun K hK => ?_) AllReadyH.nil; rw [if_neg (by decide)]; refine hK.out _ _ (by assumption) (fun hHeld => ?_); clear hK K)
                (try simp only [List.getElem_toArray, List.getElem_cons_zero, List.getElem_cons_succ, Act.put, List.setIfInBounds_toArray, List.set_cons_zero, List.set_cons_succ])
                first
                  | (refine wpAnyH_take (i := 22) (v := undef) rfl (by kernel_rfl) (by kernel_rfl) (by kernel_rfl) (fun _ _ _ h => h) (Or.inr ⟨by rfl, rfl⟩) (by assumption) ?_)
                  | (refine wpAnyH_ready (rs := [22]) (by kernel_rfl) (by simp) ?_; refine AllReadyH.cons rfl (fun K hK => ?_) AllReadyH.nil; rw [if_neg (by decide)]; refine hK.out _ _ (by assumption) (fun hHeld => ?_); clear hK K)
                (try simp only [List.getElem_toArray, List.getElem_cons_zero, List.getElem_cons_succ, Act.put, List.setIfInBounds_toArray, List.set_cons_zero, List.set_cons_succ])
                refine wpAnyH_take (i := 23) (v := ?_) rfl (by kernel_rfl) (by kernel_rfl) (by kernel_rfl) (fun _ _ _ h => h) (Or.inl ⟨by rfl, ?_⟩) (by assumption) ?_
                rotate_left
                · intro w' hSw; (try dsimp only at hSw); (try simp only [List.getElem_toArray, List.getElem_cons_zero, List.getElem_cons_succ]); go_simp; try with_reducible rfl
                (try simp only [List.getElem_toArray, List.getElem_cons_zero, List.getElem_cons_succ, Act.put, List.setIfInBounds_toArray, List.set_cons_zero, List.set_cons_succ])
                refine wpAnyH_take (i := 24) (v := ?_) rfl (by kernel_rfl) (by kernel_rfl) (by kernel_rfl) (fun _ _ _ h => h) (Or.inl ⟨by rfl, ?_⟩) (by assumption) ?_
                rotate_left
                · intro w' hSw; (try dsimp only at hSw); (try simp only [List.getElem_toArray, List.getElem_cons_zero, List.getElem_cons_succ]); go_simp; try with_reducible rfl
                (try simp only [List.getElem_toArray, List.getElem_cons_zero, List.getElem_cons_succ, Act.put, List.setIfInBounds_toArray, List.set_cons_zero, List.set_cons_succ])
                refine wpAnyH_done (by kernel_rfl) ?_ _
                go_wp2_with fail
                go_meet
                exact ⟨rfl, Lib.hid qg⟩
              case rest =>
                obtain ⟨rfl, G3⟩ := hcut
                go_wp2_with fail
                go_roundw
                case rel => exact ⟨0 + 1, by omega, by go_num, Lib.hid (GG.out.trans G3.out), Lib.hid (NX.out rfl rfl (fun x h0 _ => absurd h0 (by decide)))⟩
                case measure => simp [intOf] <;> omega
            · obtain ⟨x, hx, p1⟩ := PV.out (by omega)
              have HX := Lib.hid hx
              obtain ⟨z, hz⟩ : ∃ z, ltB x.1 tv = z := ⟨_, rfl⟩
              have HZ := Lib.hid hz
              unfold ltB at hz
              rw [← ByteArray.toList_eq, ← ByteArray.toList_eq] at hz
              generalize hpv : x.1 = pv at *
              have HP := Lib.hid hpv
              clear hx hpv
              have i1 : (0 : Int) ≤ (k : Int) - 1 := by omega
              have i2 : ((k : Int) - 1).toNat = k - 1 := by omega
              have i3 : (k : Int) - 1 < n := by omega
              have i6 : 0 < k := by omega
              have i7 : (1 : Int) ≤ (k : Int) := by omega
              have i8 : 1 ≤ k := by omega
              have i9 : (k : Int) ≤ (n : Int) := by omega
              have i4 : decide (0 < k) = true := by simp; omega
              have i5 : IntKind.i64.wrap ((k : Int) - 1) = (k : Int) - 1 := IntWalk.i64_in _ (by omega)
              go_cut [39] (fun s39 wx => s39 = .bool (!z) ∧ Hid (Gr W2 wx))
              case first =>
                clear HR HB HN VI O0 NX BK NO PV HX HZ HP
                have Hb : Hid (∀ w', Gr W2 w' → w'.cell? ⟨wr.heap.size, 0, none⟩ = some (.string tv) ∧ w'.cell? ⟨wr.heap.size, 1, none⟩ = some (.string tn) ∧ w'.cell? ⟨wr.heap.size, 2, none⟩ = some (.slice q ta d) ∧ w'.cell? ⟨b, o + (k - 1) * 3, none⟩ = some (.string pv) ∧ Hid (Gr W2 w') ∧ W2.heap.size ≤ w'.heap.size) := Lib.hid (fun w' g => ⟨(g.cell hbx).trans y1, (g.cell hbx).trans y2, (g.cell hbx).trans y3, (g.cell hb2).trans p1, Lib.hid g, g.size⟩)
                have hs0 := Hb.out _ (gr_dr (Gr.refl W2))
                go_region_held3 (fun w' => w'.cell? ⟨wr.heap.size, 0, none⟩ = some (.string tv) ∧ w'.cell? ⟨wr.heap.size, 1, none⟩ = some (.string tn) ∧ w'.cell? ⟨wr.heap.size, 2, none⟩ = some (.slice q ta d) ∧ w'.cell? ⟨b, o + (k - 1) * 3, none⟩ = some (.string pv) ∧ Hid (Gr W2 w') ∧ W2.heap.size ≤ w'.heap.size)
                  (first | (with_reducible assumption) | (with_reducible exact ⟨‹_›, ‹_›, ‹_›, ‹_›, ‹_›, ‹_›⟩) | (with_reducible refine Hb.out _ ?_; repeat (first | (with_reducible exact Hid.out (by assumption)) | (with_reducible exact Gr.refl _) | (with_reducible refine gr_dr ?_) | (with_reducible refine Gr.more ?_ _))))
                  (first | (go_at_call 39; (try go_split_ands); refine (KN.out _).mono ?_; rintro e w' ⟨rfl, rfl⟩) | (go_at_call 40; (try go_split_ands); (with_reducible refine (KV.out _ (by repeat (first | (with_reducible exact Hid.out (by assumption)) | (with_reducible exact Gr.refl _) | (with_reducible refine gr_dr ?_) | (with_reducible refine Gr.more ?_ _)))).mono ?_); rintro e w' ⟨rfl, q0⟩; (have qg : Gr W2 w' := by (refine Gr.trans ?_ q0; repeat (first | (with_reducible exact Hid.out (by assumption)) | (with_reducible exact Gr.refl _) | (with_reducible refine gr_dr ?_) | (with_reducible refine Gr.more ?_ _)))); clear q0; obtain ⟨z1, z2, z3, z4, z5, z6⟩ := Hb.out _ qg))
                all_goals
                  go_wp2_with fail
                  go_meet
                  exact ⟨rfl, Lib.hid qg⟩
              case rest =>
                clear i1 i2 i3 i4 i5 i6 i7 i8 i9 hz
                obtain ⟨rfl, G3⟩ := hcut
                cases z
                · have RF := Lib.hid (NO.out (fun hh => by
                    have h2 := (BK.out hh).2.2 x (by omega) HX.out
                    rw [HP.out, HZ.out] at h2
                    cases h2))
                  go_wp2_with fail
                  go_ret
                  exact ⟨ret_b RF.out.symm, GG.out.trans G3.out⟩
                · go_wp2_with fail
                  go_roundw
                  case rel => exact ⟨k + 1, by omega, by go_num, Lib.hid (GG.out.trans G3.out), Lib.hid (NX.out rfl rfl (fun y _ hy => by have e := hy.symm.trans HX.out; injection e with e; subst e; rw [HP.out]; exact HZ.out))⟩
                  case measure => simp [intOf] <;> omega
      · obtain rfl : k = n := by omega
        have RF : Hid (R = true) := Lib.hid (VI.out.2 ⟨by omega, hO.out⟩)
        go_wp2_with fail
        go_ret
        exact ⟨ret_b RF.out.symm, hG.out⟩
end UniA
end Go.Proofs.YtaenalpckloikaaGreatDoor
/- find: binary search among bindings by the variable's name. Condition: at most 3000000 bindings, whose names are sorted around the one that is sought. -/
namespace Go.Proofs.YtaenalpckloikaaGreatDoor
open Go Go.RowKit
namespace UniC
open LexM TermM TermI Kit TermN TermU TermO UniK UniM UniA
theorem cmpf_any (b : Bd) (sv : Value) (u : ByteArray) (w : World) :
    Calls Tryz.prog 76 #[.agg #[.string b.1, .string b.2.nm, sv], .string u] w fun e w' => e = .returned (.int .i64 (lexB b.1.data.toList u.data.toList)) ∧ Gr w w' := by
  have C := Lib.hid (fun w' => cmpS_any b.1 u w')
  generalize lexB b.1.data.toList u.data.toList = z at *
  go_enter Tryz.func76, Tryz.ntmps76
  go_wp2_with fail
  refine (C.out _).mono ?_
  rintro e w' ⟨rfl, rfl⟩
  go_wp2_with fail
  go_ret
  exact ⟨rfl, Gr.alloc _ _⟩
def FoundS (s : List Bd) (u : ByteArray) (w : World) (e : Ending) (w' : World) : Prop :=
  (∃ (i : Nat) (f : Bool), i ≤ s.length ∧ e = .returned (.tuple #[.int .i64 i, .bool f]) ∧ (∀ (j : Nat) (y : Bd), j < i → s[j]? = some y → lexB y.1.data.toList u.data.toList < 0) ∧ (∀ (j : Nat) (y : Bd), i ≤ j → s[j]? = some y → 0 ≤ lexB y.1.data.toList u.data.toList) ∧ (f = true ↔ ∃ y, s[i]? = some y ∧ lexB y.1.data.toList u.data.toList = 0)) ∧ Gr w w'
set_option maxRecDepth 100000 in
set_option maxHeartbeats 3200000 in
theorem bs_any (s : List Bd) (u : ByteArray) (hS : ∀ (i j : Nat) (x y : Bd), i < j → s[i]? = some x → s[j]? = some y → lexB y.1.data.toList u.data.toList < 0 → lexB x.1.data.toList u.data.toList < 0) (hlen : s.length ≤ 3000000)
    (B : Nat) (w : World) (v : Value) (hB : B ≤ w.heap.size) (h : SIn (· < B) w s v) :
    Calls Tryz.prog 75 #[v, .string u, .func (.func 76) #[] #[]] w (FoundS s u w) := by
  obtain ⟨p, c, rfl, hc, hm, hR⟩ := SIn.row h
  have HR := Lib.hid hR
  have HB := Lib.hid hB
  have HS := Lib.hid hS
  unfold FoundS
  generalize hlm : s.length = m at *
  have HM := Lib.hid hlm
  have KALL := Lib.hid (fun wr (dw : Gr w wr) (k : Nat) (hlt : k < m) => by
    obtain ⟨x, b, o, q, d, hx, hp, hb, c1, c2, c3, _⟩ := (HR.out.gr dw HB.out) k (by rw [HM.out]; exact hlt)
    exact (⟨x, b, o, q, x.2.args.length, d, x.1, x.2.nm, hx, hp, c1, c2, c3, fun w2 => cmpf_any x _ u w2⟩ :
      ∃ (x : Bd) (b o : Nat) (q : Option Addr) (xa d : Nat) (xv xn : ByteArray), s[k]? = some x ∧ p = some ⟨b, o, none⟩ ∧ wr.cell? ⟨b, o + k * 3, none⟩ = some (.string xv) ∧ wr.cell? ⟨b, o + k * 3 + 1, none⟩ = some (.string xn) ∧ wr.cell? ⟨b, o + k * 3 + 1 + 1, none⟩ = some (.slice q xa d) ∧
        ∀ w2, Calls Tryz.prog 76 #[.agg #[.string xv, .string xn, .slice q xa d], .string u] w2 fun e w' => e = .returned (.int .i64 (lexB x.1.data.toList u.data.toList)) ∧ Gr w2 w'))
  clear hR h hc hm hlm hS hB HR
  go_enter Tryz.func75, Tryz.ntmps75
  go_wp2_with fail
  go_loopw [9, 10] (fun i j wr => ∃ lo hi : Nat, lo ≤ hi ∧ hi ≤ m ∧ i = .int .i64 lo ∧ j = .int .i64 hi ∧ Hid (∀ (j : Nat) (y : Bd), j < lo → s[j]? = some y → lexB y.1.data.toList u.data.toList < 0) ∧ Hid (∀ (j : Nat) (y : Bd), hi ≤ j → s[j]? = some y → 0 ≤ lexB y.1.data.toList u.data.toList) ∧ Hid (Gr w wr)) (fun i j _ => (intOf j).toNat - (intOf i).toNat)
  case atStart => exact ⟨0, m, Nat.zero_le _, Nat.le_refl _, rfl, rfl, Lib.hid (fun j y hj => absurd hj (Nat.not_lt_zero _)), Lib.hid (fun j y hj hy => by
    have h1 := (List.getElem?_eq_some_iff.1 hy).1
    have h2 := HM.out
    omega), Lib.hid (Gr.refl _)⟩
  case round =>
    obtain ⟨lo, hi, hlh, hhm, rfl, rfl, hA, hZ, hg⟩ := hrel
    by_cases hlt : lo < hi
    · obtain ⟨q0, hq0⟩ : ∃ q0, q0 = (lo + hi) / 2 := ⟨_, rfl⟩
      have e1 : ((lo : Int) + (hi : Int)) / 2 = (q0 : Int) := by omega
      have hq1 : lo ≤ q0 := by omega
      have hq2 : q0 < hi := by omega
      have hq3 : q0 < m := by omega
      obtain ⟨x, b, o, q, xa, d, xv, xn, hx, rfl, c1, c2, c3, KK0⟩ := KALL.out wr hg.out q0 hq3
      have KK := Lib.hid KK0
      have HX := Lib.hid hx
      clear KK0 hx hq0
      generalize hz : lexB x.1.data.toList u.data.toList = z at KK
      have HZ := Lib.hid hz
      clear hz
      clear KALL
      go_wp2_with fail
      refine (KK.out _).mono ?_
      rintro e w3 ⟨rfl, g3⟩
      have G3 := Lib.hid (hg.out.trans g3)
      clear g3 KK c1 c2 c3
      by_cases hz0 : z < 0
      · have HA2 : Hid (∀ (j : Nat) (y : Bd), j < q0 + 1 → s[j]? = some y → lexB y.1.data.toList u.data.toList < 0) := Lib.hid (fun j y hj hy => by
          have h1 := HZ.out
          by_cases e : j = q0
          · subst e; rw [HX.out] at hy; injection hy with hy; subst hy; omega
          · exact HS.out j q0 y x (by omega) hy HX.out (by omega))
        go_wp2_with fail
        go_roundw
        case rel => exact ⟨q0 + 1, hi, by omega, hhm, by go_num, rfl, HA2, hZ, G3⟩
        case measure => simp [intOf]; omega
      · have HZ2 : Hid (∀ (j : Nat) (y : Bd), q0 ≤ j → s[j]? = some y → 0 ≤ lexB y.1.data.toList u.data.toList) := Lib.hid (fun j y hj hy => by
          have h1 := HZ.out
          by_cases e : j = q0
          · subst e; rw [HX.out] at hy; injection hy with hy; subst hy; omega
          · have h2 := HS.out q0 j x y (by omega) HX.out hy
            omega)
        go_wp2_with fail
        go_roundw
        case rel => exact ⟨lo, q0, hq1, by omega, rfl, rfl, hA, HZ2, G3⟩
        case measure => simp [intOf]; omega
    · obtain rfl : lo = hi := by omega
      by_cases hlm : lo < m
      · obtain ⟨x, b, o, q, xa, d, xv, xn, hx, rfl, c1, c2, c3, KK0⟩ := KALL.out wr hg.out lo hlm
        have KK := Lib.hid KK0
        have HX := Lib.hid hx
        clear KK0 hx
        generalize hz : lexB x.1.data.toList u.data.toList = z at KK
        have HZ := Lib.hid hz
        clear hz
        obtain ⟨zb, hzb⟩ : ∃ zb, (z == 0) = zb := ⟨_, rfl⟩
        have HF : Hid (zb = true ↔ ∃ y, s[lo]? = some y ∧ lexB y.1.data.toList u.data.toList = 0) := Lib.hid (by
          rw [← hzb, beq_iff_eq]
          constructor
          · intro hh; exact ⟨x, HX.out, by rw [HZ.out]; exact hh⟩
          · rintro ⟨y, hy, hh⟩
            rw [HX.out] at hy; injection hy with hy; subst hy
            rw [← HZ.out]; exact hh)
        clear KALL HZ
        go_wp2_with fail
        refine (KK.out _).mono ?_
        rintro e w3 ⟨rfl, g3⟩
        have G3 := Lib.hid (hg.out.trans g3)
        clear g3 KK c1 c2 c3
        go_wp2_with fail
        go_ret2
        exact ⟨⟨lo, zb, by omega, rfl, hA.out, hZ.out, HF.out⟩, G3.out⟩
      · obtain rfl : lo = m := by omega
        have HF : Hid (false = true ↔ ∃ y, s[lo]? = some y ∧ lexB y.1.data.toList u.data.toList = 0) := Lib.hid (by
          constructor
          · intro hh; cases hh
          · rintro ⟨y, hy, _⟩
            have h1 := (List.getElem?_eq_some_iff.1 hy).1
            have h2 := HM.out
            omega)
        clear KALL
        go_wp2_with fail
        go_ret2
        exact ⟨⟨lo, false, by omega, rfl, hA.out, hZ.out, HF.out⟩, hg.out⟩
/-- Sorted by the variables' names, as a valid substitution is. -/
def Srt (s : List Bd) : Prop := ∀ (i j : Nat) (x y : Bd), i < j → s[i]? = some x → s[j]? = some y → lexB x.1.data.toList y.1.data.toList < 0
theorem srt_around {s : List Bd} (h : Srt s) (u : ByteArray) : ∀ (i j : Nat) (x y : Bd), i < j → s[i]? = some x → s[j]? = some y → lexB y.1.data.toList u.data.toList < 0 → lexB x.1.data.toList u.data.toList < 0 := fun i j x y hij hx hy h2 => by
  have h1 := h i j x y hij hx hy
  exact (tri_lex x.1.data.toList y.1.data.toList u.data.toList).2.1 h1 (by omega)
theorem find_any (s : List Bd) (u : ByteArray) (hS : Srt s) (hlen : s.length ≤ 3000000) (B : Nat) (w : World) (v : Value) (hB : B ≤ w.heap.size) (h : SIn (· < B) w s v) :
    Calls Tryz.prog 41 #[v, .string u] w (FoundS s u w) := by
  have C := Lib.hid (bs_any s u (srt_around hS u) hlen B w v hB h)
  obtain ⟨p, c, rfl⟩ := h.form
  clear h hS
  unfold FoundS at C ⊢
  generalize s.length = n at *
  go_enter Tryz.func41, Tryz.ntmps41
  go_wp2_with fail
  refine C.out.mono ?_
  rintro e w2 ⟨⟨i, f, h1, rfl, h2, h3, h4⟩, g⟩
  have H := Lib.hid (And.intro h2 (And.intro h3 h4))
  have G := Lib.hid g
  clear h2 h3 h4 g C
  go_wp2_with fail
  go_ret2
  exact ⟨⟨i, f, h1, rfl, H.out.1, H.out.2.1, H.out.2.2⟩, G.out⟩
end UniC
end Go.Proofs.YtaenalpckloikaaGreatDoor
