/- The reference's Match, which answers as the code's does. Condition: bindings and pattern together at most a million. -/
import Derived.Test.YtjfgnmmcdgpiiaaGreatDoorUniS
import Derived.Test.YtjfgnmmcdgpiiaaGreatDoorUniQ
namespace Go.Proofs.YtjfgnmmcdgpiiaaGreatDoor
open Go Go.RowKit
namespace UniT
open LexM TermM TermI Kit TermN TermU TermH UniK UniM UniA UniB UniC UniD UniE UniG UniJ UniO UniL UniP UniR UniS
theorem extl_keeps (lim : Bool) : ∀ (l r : List Tm) (s s' : List Bd), Srt s → extL lim l r s = some s' → Keeps lim (sizeL l) s s'
  | [], r, s, s', hS, h => by
    unfold extL at h
    cases h
    exact ⟨hS, Nat.le_refl _, by omega, fun _ h => h⟩
  | a :: l, [], s, s', hS, h => by unfold extL at h; cases h
  | a :: l, t :: r, s, s', hS, h => by
    unfold extL at h
    split at h
    · rename_i s1 h1
      obtain ⟨a1, a2, a3, a4⟩ := ext_keeps lim a t s s1 hS h1
      obtain ⟨b1, b2, b3, b4⟩ := extl_keeps lim l r s1 s' a1 h
      exact ⟨b1, by omega, by simp only [sizeL]; omega, fun e h => b4 e (a4 e h)⟩
    · cases h
/-- With the limit: the same, or none where it is passed. -/
def cut64 (o : Option (List Bd)) : Option (List Bd) := match o with
  | some s => if s.length ≤ 64 then some s else none
  | none => none
theorem bind_none {s : List Bd} {v : ByteArray} {t : Tm} (h : bindP false s v t = none) : bindP true s v t = none := by
  unfold bindP at h ⊢
  split at h
  · split at h
    · cases h
    · simp_all
  · simp at h
theorem ext_lim (p : Tm) : ∀ (t : Tm) (s : List Bd), Srt s → s.length ≤ 64 → extP true p t s = cut64 (extP false p t s) := by
  induction p using Tm.ind with
  | h n l ih =>
    intro t s hS hs
    unfold extP
    split
    · cases hb : bindP false s n t with
      | none => rw [bind_none hb]; rfl
      | some s' =>
        rw [bind_lim hb]
        unfold cut64
        by_cases h : s'.length ≤ 64
        · rw [if_neg (by omega)]; simp [h]
        · rw [if_pos (by omega)]; simp [h]
    · split
      · have key : ∀ (l : List Tm), (∀ x ∈ l, ∀ (t : Tm) (s : List Bd), Srt s → s.length ≤ 64 → extP true x t s = cut64 (extP false x t s)) → ∀ (r : List Tm) (s : List Bd), Srt s → s.length ≤ 64 → extL true l r s = cut64 (extL false l r s) := by
          intro l
          induction l with
          | nil =>
            intro _ r s _ hs
            simp [extL, cut64, hs]
          | cons a l ihl =>
            intro hx r s hS hs
            cases r with
            | nil => simp [extL, cut64]
            | cons t r =>
              unfold extL
              rw [hx a (by simp) t s hS hs]
              cases he : extP false a t s with
              | none => simp [cut64]
              | some s1 =>
                have hS1 := (ext_keeps false a t s s1 hS he).1
                by_cases h1 : s1.length ≤ 64
                · simp only [cut64, h1, if_true]
                  exact ihl (fun x hx' => hx x (by simp [hx'])) r s1 hS1 h1
                · simp only [cut64, h1, if_false]
                  cases hl : extL false l r s1 with
                  | none => rfl
                  | some s2 =>
                    have := (extl_keeps false l r s1 s2 hS1 hl).2.1
                    simp only
                    rw [if_neg (by omega)]
        exact key l ih t.args s hS hs
      · rfl
theorem valid_step (g : Bool) : ∀ (d : Nat) (t : Tm), validT g d t = true → validT g (d + 1) t = true
  | 0, t, h => by cases t; simp [validT] at h
  | d + 1, .mk n l, h => by
    unfold validT at h ⊢
    split at h
    · rename_i he
      rw [if_pos he]
      exact h
    · rename_i he
      rw [if_neg he]
      rw [Bool.and_eq_true, List.all_eq_true] at h ⊢
      exact ⟨h.1, fun x hx => valid_step g d x (h.2 x hx)⟩
theorem valid_up (g : Bool) {d e : Nat} (h : d ≤ e) {t : Tm} (hv : validT g d t = true) : validT g e t = true := by
  induction h with
  | refl => exact hv
  | step _ ih => exact valid_step g _ t ih
theorem srt_asc : ∀ s : List Bd, Srt s → ascB s = true
  | [], _ => rfl
  | [x], _ => rfl
  | a :: b :: r, h => by
    unfold ascB
    rw [Bool.and_eq_true]
    exact ⟨lt_lex.2 (h 0 1 a b (by omega) rfl rfl), srt_asc (b :: r) (srt_tail h)⟩
theorem vld_of {s : List Bd} (h1 : s.length ≤ 64) (h2 : Srt s) (h3 : ∀ y ∈ s, varB y.1 = true ∧ validT false 4 y.2 = true) : vldS s = true := by
  unfold vldS
  rw [Bool.and_eq_true, Bool.and_eq_true, decide_eq_true_eq, List.all_eq_true]
  exact ⟨h1, fun y hy => by rw [Bool.and_eq_true]; exact h3 y hy, srt_asc s h2⟩
theorem vld_all {s : List Bd} (h : vldS s = true) : ∀ y ∈ s, varB y.1 = true ∧ validT false 4 y.2 = true := by
  unfold vldS at h
  rw [Bool.and_eq_true, Bool.and_eq_true, List.all_eq_true] at h
  intro y hy
  have := h.2.1 y hy
  rw [Bool.and_eq_true] at this
  exact this
/-- What is bound by matching a ground term is valid. -/
theorem ext_vld {lim : Bool} {p t : Tm} {s s' : List Bd} (hs : vldS s = true) (ht : validT true 4 t = true) (h : extP lim p t s = some s') : ∀ y ∈ s', varB y.1 = true ∧ validT false 4 y.2 = true := by
  refine ext_all (P := fun y => varB y.1 = true ∧ validT false 4 y.2 = true) (Q := fun t => ∃ d, d ≤ 4 ∧ validT true d t = true) ?_ ?_ lim p t s s' h (vld_all hs) ⟨4, Nat.le_refl _, ht⟩
  · rintro n l ⟨d, hd, h⟩ x hx
    cases d with
    | zero => simp [validT] at h
    | succ d =>
      unfold validT at h
      split at h
      · rename_i he
        cases l with
        | nil => cases hx
        | cons a l => simp at he
      · rw [Bool.and_eq_true, List.all_eq_true] at h
        exact ⟨d, by omega, h.2 x hx⟩
  · rintro v t hv ⟨d, hd, h⟩
    exact ⟨hv, valid_up false hd ((ground_leaf d t).1 h).1⟩
theorem match_eq (p t : Tm) (s : List Bd) (hs : vldS s = true) (ht : validT true 4 t = true) : matchP p t s = match extP false p t s with
    | some s' => if vldS s' = true then some s' else none
    | none => none := by
  unfold matchP
  rw [hs, ht]
  simp only [Bool.and_self, if_true]
  rw [ext_lim p t s (vld_srt hs).1 (vld_srt hs).2]
  cases he : extP false p t s with
  | none => rfl
  | some s' =>
    have h1 := (ext_keeps false p t s s' (vld_srt hs).1 he).1
    have h2 := ext_vld hs ht he
    unfold cut64
    simp only
    by_cases hl : s'.length ≤ 64
    · rw [if_pos hl, if_pos (vld_of hl h1 h2)]
    · rw [if_neg hl, if_neg (fun h => hl (vld_srt h).2)]
set_option maxRecDepth 100000 in
set_option maxHeartbeats 3200000 in
theorem rmatch_any (p t : Tm) (s : List Bd) (hz : sizeT p ≤ 900000) (B : Nat) (w : World) (sv pv tv : Value) (hB : B ≤ w.heap.size) (hs : SIn (· < B) w s sv) (hp : SlIn (· < B) w p.args pv) (ht : SlIn (· < B) w t.args tv) (hpn : p.nm.size ≤ maxLen) (htn : t.nm.size ≤ maxLen) :
    Calls Tryz.prog 27 #[.agg #[.string p.nm, pv], .agg #[.string t.nm, tv], sv] w (MtR (matchP p t s) w) := by
  obtain ⟨p1, c1, rfl⟩ := hp.form
  obtain ⟨p2, c2, rfl⟩ := ht.form
  obtain ⟨W2, hW2⟩ : ∃ W2, W2 = (w.alloc (.cells #[.string p.nm, .slice p1 p.args.length c1] 27)).alloc (.cells #[.string t.nm, .slice p2 t.args.length c2] 27) := ⟨_, rfl⟩
  have G2 : Gr w W2 := by rw [hW2]; exact (Gr.alloc _ _).more _
  have H2 : Hid (Has W2 w.heap.size #[.string p.nm, .slice p1 p.args.length c1]) := Lib.hid (by rw [hW2]; exact (Has.new w _ _).alloc _)
  have T2 : Hid (Has W2 (w.heap.size + 1) #[.string t.nm, .slice p2 t.args.length c2]) := Lib.hid (by rw [hW2]; exact Has.new1 w _ _ _)
  have CV := Lib.hid (fun w' (k : Below w.heap.size w w') => rvalid_any s B w' sv (Nat.le_trans hB k.size) (hs.deep k hB))
  have CE := Lib.hid (fun (hv : vldS s = true) w' (k : Below w.heap.size w w') => rext_any p t s (vld_srt hv).1 (by have := (vld_srt hv).2; omega) B w' sv _ _ (Nat.le_trans hB k.size) (hs.deep k hB) (hp.deep k hB) (ht.deep k hB) hpn htn)
  have CG := Lib.hid (fun w' (k : Below w.heap.size w w') => TermV.rground_any t B w' _ (Nat.le_trans hB k.size) htn (ht.deep k hB))
  have MN : Hid (vldS s = false ∨ validT true 4 t = false → matchP p t s = none) := Lib.hid (fun h => by
    unfold matchP
    rcases h with h | h <;> simp [h])
  have MO := Lib.hid (fun (hs : vldS s = true) (ht : validT true 4 t = true) (he : extP false p t s = none) => show matchP p t s = none from by rw [match_eq p t s hs ht, he])
  have MS := Lib.hid (fun (hs : vldS s = true) (ht : validT true 4 t = true) s' (he : extP false p t s = some s') => show matchP p t s = if vldS s' = true then some s' else none from by rw [match_eq p t s hs ht, he])
  have GG := Lib.hid G2
  clear hs hp ht hpn htn hz G2
  obtain ⟨vb, hvb⟩ : ∃ vb, vldS s = vb := ⟨_, rfl⟩
  rw [hvb] at CV MN CE MO MS
  generalize validT true 4 t = gb at *
  generalize p.nm = pn at *
  generalize p.args.length = pa at *
  generalize t.nm = tn at *
  generalize t.args.length = ta at *
  clear hvb
  obtain ⟨y1, y2, y3, y4, y5⟩ := T2.out.two
  unfold BndR at CE
  cases vb
  · clear CE CG MO MS
    have EO := Lib.hid (MN.out (Or.inl rfl))
    go_enter Tryz.func27, Tryz.ntmps27
    go_upto_region 1 with fail
    rw [← hW2]
    clear hW2
    go_wp2_with fail
    refine (CV.out _ GG.out.1).mono ?_
    rintro e w3 ⟨rfl, g3⟩
    have D3 := Lib.hid (next0 GG.out.1 g3.1)
    go_wp2_with fail
    refine bodyPost_ret (v := .tuple #[.slice none 0 0, .bool false]) (by simp [results, Tryz.results27, go_sem]) rfl ?_
    unfold MtR
    exact ⟨_, false, rfl, (fun h => by cases h), (fun _ => ⟨EO.out, rfl⟩), D3.out⟩
  · go_enter Tryz.func27, Tryz.ntmps27
    go_upto_region 1 with fail
    rw [← hW2]
    clear hW2
    go_wp2_with fail
    refine (CV.out _ GG.out.1).mono ?_
    rintro e w3 ⟨rfl, g3⟩
    have D3 := Lib.hid (next0 GG.out.1 g3.1)
    have T3 := Lib.hid (T2.out.step0 g3.1)
    have H3 := Lib.hid (H2.out.step0 g3.1)
    clear y1 y2 y3 y4 y5 g3 T2 H2
    obtain ⟨y1, y2, y3, y4, y5⟩ := T3.out.two
    go_wp2_with fail
    refine (CG.out _ D3.out).mono ?_
    rintro e w4 ⟨rfl, g4⟩
    have D4 := Lib.hid (next0 D3.out g4.1)
    cases gb
    · have EO := Lib.hid (MN.out (Or.inr rfl))
      clear CE MO MS
      go_wp2_with fail
      refine bodyPost_ret (v := .tuple #[.slice none 0 0, .bool false]) (by simp [results, Tryz.results27, go_sem]) rfl ?_
      unfold MtR
      exact ⟨_, false, rfl, (fun h => by cases h), (fun _ => ⟨EO.out, rfl⟩), D4.out⟩
    · have T4 := Lib.hid (T3.out.step0 g4.1)
      have H4 := Lib.hid (H3.out.step0 g4.1)
      clear y1 y2 y3 y4 y5 g4 T3 H3
      obtain ⟨y1, y2, y3, y4, y5⟩ := T4.out.two
      obtain ⟨z1, z2, z3, z4, z5⟩ := H4.out.two
      go_wp2_with fail
      refine (CE.out trivial _ D4.out).mono ?_
      rintro e w5 ⟨v5, f, rfl, h1, h2, hb5⟩
      have D5 := Lib.hid (next0 D4.out hb5)
      cases f
      · have EO := Lib.hid (MO.out trivial trivial (h2 rfl))
        clear MS MN h1 h2
        go_wp2_with fail
        refine bodyPost_ret (v := .tuple #[.slice none 0 0, .bool false]) (by simp [results, Tryz.results27, go_sem]) rfl ?_
        unfold MtR
        exact ⟨_, false, rfl, (fun h => by cases h), (fun _ => ⟨EO.out, rfl⟩), D5.out⟩
      · obtain ⟨s9, he, hI⟩ := h1 rfl
        have EO := Lib.hid (MS.out trivial trivial s9 he)
        have CW := Lib.hid (rvalid_any s9 w5.heap.size w5 v5 (Nat.le_refl _) hI)
        have I9 := Lib.hid (fun w' (k : Below w5.heap.size w5 w') => (hI.deep k (Nat.le_refl _)).wide (ok' := (· < w'.heap.size)) fun b hb => Nat.lt_of_lt_of_le hb k.size)
        clear MS MN MO h1 h2 he hI
        generalize vldS s9 = v9 at *
        go_wp2_with fail
        refine CW.out.mono ?_
        rintro e w6 ⟨rfl, g6⟩
        have D6 := Lib.hid (next0 D5.out g6.1)
        have J9 := Lib.hid (I9.out _ g6.1)
        clear g6
        cases v9
        · go_wp2_with fail
          refine bodyPost_ret (v := .tuple #[.slice none 0 0, .bool false]) (by simp [results, Tryz.results27, go_sem]) rfl ?_
          unfold MtR
          exact ⟨_, false, rfl, (fun h => by cases h), (fun _ => ⟨by rw [EO.out]; rfl, rfl⟩), D6.out⟩
        · go_wp2_with fail
          refine bodyPost_ret (v := .tuple #[v5, .bool true]) (by simp [results, Tryz.results27, go_sem]) rfl ?_
          unfold MtR
          exact ⟨_, true, rfl, (fun _ => ⟨s9, by rw [EO.out]; rfl, J9.out⟩), (fun h => by cases h), D6.out⟩
end UniT
end Go.Proofs.YtjfgnmmcdgpiiaaGreatDoor
