/- Instances are matched: plain facts for UnifyInstances. No conditions. -/
import Derived.Test.YtjfgnmmcdgpiiaaGreatDoorUniT
import Derived.Test.YtjfgnmmcdgpiiaaGreatDoorUniH
namespace Go.Proofs.YtjfgnmmcdgpiiaaGreatDoor
open Go
namespace UniY
open LexM TermM TermH UniM UniA UniC UniE UniG UniH UniO UniP UniT
/-- The variables of a term are bound. -/
def Bnd (s : List Bd) (p : Tm) : Prop := ∀ v ∈ leavesT p, varB v = true → ∃ u, lookS s v = some u
theorem look_mem {s : List Bd} {v : ByteArray} {u : Tm} (h : lookS s v = some u) : (v, u) ∈ s := by
  unfold lookS at h
  cases hf : s.find? (fun b => eqB b.1 v) with
  | none => rw [hf] at h; cases h
  | some y =>
    rw [hf] at h
    have e1 : eqB y.1 v = true := by simpa using List.find?_some (p := fun b : Bd => eqB b.1 v) hf
    have e2 : y.2 = u := by simpa using h
    have := List.mem_of_find?_eq_some hf
    rw [eqB_iff] at e1
    rw [← e1, ← e2]
    exact this
theorem look_of {s : List Bd} (hS : Srt s) {v : ByteArray} {u : Tm} (h : (v, u) ∈ s) : lookS s v = some u := by
  obtain ⟨i, hi⟩ := List.mem_iff_getElem?.1 h
  exact look_found hS hi ((lex_zero _ _).2 rfl)
theorem bnd_mono {s1 s2 : List Bd} (hS : Srt s2) (h : ∀ y ∈ s1, y ∈ s2) {p : Tm} (hb : Bnd s1 p) : Bnd s2 p := by
  intro v hv hx
  obtain ⟨u, hu⟩ := hb v hv hx
  exact ⟨u, look_of hS (h _ (look_mem hu))⟩
theorem leaves_mem {v : ByteArray} : ∀ {l : List Tm}, v ∈ leavesL l ↔ ∃ x ∈ l, v ∈ leavesT x
  | [] => by simp [leavesL]
  | t :: l => by simp [leavesL, leaves_mem (l := l)]
theorem bnd_arg {s : List Bd} {n : ByteArray} {l : List Tm} (h : Bnd s (.mk n l)) {x : Tm} (hx : x ∈ l) : Bnd s x := by
  intro v hv
  have : v ∈ leavesT (.mk n l) := by
    unfold leavesT
    cases l with
    | nil => cases hx
    | cons a r => simp only [List.isEmpty_cons, Bool.false_eq_true, if_false]; exact leaves_mem.2 ⟨x, hx, hv⟩
  exact h v this
theorem isv_nil {n : ByteArray} {l : List Tm} (h : isV (.mk n l) = true) : l = [] ∧ varB n = true := by
  unfold isV at h
  rw [Bool.and_eq_true] at h
  exact ⟨by simpa [Tm.args] using h.1, h.2⟩
theorem bnd_var {s : List Bd} {n : ByteArray} (h : Bnd s (.mk n [])) (hv : varB n = true) : ∃ u, lookS s n = some u := h n (by simp [leavesT]) hv
theorem ext_self (lim : Bool) (s : List Bd) (hV : ∀ b ∈ s, varB b.1 = true) (p : Tm) : Bnd s p → extP lim p (appT s p) s = some s := by
  induction p using Tm.ind with
  | h n l ih =>
    intro hb
    by_cases hv : isV (.mk n l) = true
    · obtain ⟨rfl, hx⟩ := isv_nil hv
      obtain ⟨u, hu⟩ := bnd_var hb hx
      rw [extP, if_pos hv]
      unfold bindP
      simp [appT, hu, cmp_zero]
    · have hv0 : isV (.mk n l) = false := by simpa using hv
      rw [app_same hV n l hv0, extP, if_neg hv]
      have e : (eqB n (Tm.mk n (l.map (appT s))).nm && decide (l.length = (Tm.mk n (l.map (appT s))).args.length)) = true := by
        simp [Tm.nm, Tm.args, eqB]
      rw [if_pos e]
      show extL lim l (l.map (appT s)) s = some s
      have hb' : ∀ x ∈ l, Bnd s x := fun x hx => bnd_arg hb hx
      clear hb hv hv0 e
      induction l with
      | nil => rfl
      | cons a r ihl =>
        simp only [List.map_cons, extL]
        rw [ih a (by simp) (hb' a (by simp))]
        exact ihl (fun x hx => ih x (by simp [hx])) (fun x hx => hb' x (by simp [hx]))
theorem ext_inst (s : List Bd) (hS : Srt s) (hV : ∀ b ∈ s, varB b.1 = true) (p : Tm) : ∀ s0 : List Bd, Bnd s p → Srt s0 → (∀ y ∈ s0, y ∈ s) → ∃ s1, extP false p (appT s p) s0 = some s1 ∧ Srt s1 ∧ (∀ y ∈ s1, y ∈ s) ∧ (∀ y ∈ s0, y ∈ s1) ∧ Bnd s1 p := by
  induction p using Tm.ind with
  | h n l ih =>
    intro s0 hb h0 hsub
    by_cases hv : isV (.mk n l) = true
    · obtain ⟨rfl, hx⟩ := isv_nil hv
      obtain ⟨u, hu⟩ := bnd_var hb hx
      have ea : appT s (.mk n []) = u := by simp [appT, hu]
      rw [ea, extP, if_pos hv]
      unfold bindP
      have bn : ∀ s1, Srt s1 → (n, u) ∈ s1 → Bnd s1 (.mk n []) := by
        intro s1 h1 hm v hv' _
        have : v = n := by simpa [leavesT] using hv'
        subst this
        exact ⟨u, look_of h1 hm⟩
      cases hl : lookS s0 n with
      | some u' =>
        have hm := look_mem hl
        have := look_of hS (hsub _ hm)
        rw [hu] at this
        cases this
        simp only [(cmp_zero u u).2 rfl, if_true]
        exact ⟨s0, rfl, h0, hsub, fun y hy => hy, bn s0 h0 hm⟩
      | none =>
        simp only [Bool.false_and, Bool.false_eq_true, if_false]
        refine ⟨_, rfl, put_srt n u s0 h0 hl, fun y hy => ?_, fun y hy => put_mem.2 (Or.inr hy), bn _ (put_srt n u s0 h0 hl) (put_mem.2 (Or.inl rfl))⟩
        rcases put_mem.1 hy with rfl | hy
        · exact look_mem hu
        · exact hsub y hy
    · have hv0 : isV (.mk n l) = false := by simpa using hv
      rw [app_same hV n l hv0, extP, if_neg hv]
      have e : (eqB n (Tm.mk n (l.map (appT s))).nm && decide (l.length = (Tm.mk n (l.map (appT s))).args.length)) = true := by
        simp [Tm.nm, Tm.args, eqB]
      rw [if_pos e]
      have key : ∀ (l : List Tm), (∀ x ∈ l, ∀ s0 : List Bd, Bnd s x → Srt s0 → (∀ y ∈ s0, y ∈ s) → ∃ s1, extP false x (appT s x) s0 = some s1 ∧ Srt s1 ∧ (∀ y ∈ s1, y ∈ s) ∧ (∀ y ∈ s0, y ∈ s1) ∧ Bnd s1 x) → (∀ x ∈ l, Bnd s x) → ∀ s0 : List Bd, Srt s0 → (∀ y ∈ s0, y ∈ s) → ∃ s1, extL false l (l.map (appT s)) s0 = some s1 ∧ Srt s1 ∧ (∀ y ∈ s1, y ∈ s) ∧ (∀ y ∈ s0, y ∈ s1) ∧ ∀ x ∈ l, Bnd s1 x := by
        intro l
        induction l with
        | nil => intro _ _ s0 h0 hsub; exact ⟨s0, rfl, h0, hsub, fun y hy => hy, fun x hx => by cases hx⟩
        | cons a r ihl =>
          intro hx hb s0 h0 hsub
          obtain ⟨s1, e1, b1, c1, d1, f1⟩ := hx a (by simp) s0 (hb a (by simp)) h0 hsub
          obtain ⟨s2, e2, b2, c2, d2, f2⟩ := ihl (fun x hx' => hx x (by simp [hx'])) (fun x hx' => hb x (by simp [hx'])) s1 b1 c1
          refine ⟨s2, ?_, b2, c2, fun y hy => d2 y (d1 y hy), fun x hx' => ?_⟩
          · simp only [List.map_cons, extL, e1, e2]
          · rcases List.mem_cons.1 hx' with rfl | hx'
            · exact bnd_mono b2 d2 f1
            · exact f2 x hx'
      obtain ⟨s1, e1, b1, c1, d1, f1⟩ := key l ih (fun x hx => bnd_arg hb hx) s0 h0 hsub
      refine ⟨s1, e1, b1, c1, d1, ?_⟩
      intro v hv' hx
      unfold leavesT at hv'
      cases l with
      | nil =>
        have : varB n = false := by simpa [isV, Tm.args, Tm.nm] using hv0
        have h2 : v = n := by simpa using hv'
        rw [h2, this] at hx
        cases hx
      | cons a r =>
        simp only [List.isEmpty_cons, Bool.false_eq_true, if_false] at hv'
        obtain ⟨x, hx', hv''⟩ := leaves_mem.1 hv'
        exact f1 x hx' v hv'' hx
theorem app_sub {s s1 : List Bd} (hS : Srt s) (hV : ∀ b ∈ s, varB b.1 = true) (hsub : ∀ y ∈ s1, y ∈ s) (p : Tm) : Bnd s1 p → appT s1 p = appT s p := by
  induction p using Tm.ind with
  | h n l ih =>
    intro hb
    have hV1 : ∀ b ∈ s1, varB b.1 = true := fun b h => hV b (hsub b h)
    by_cases hv : isV (.mk n l) = true
    · obtain ⟨rfl, hx⟩ := isv_nil hv
      obtain ⟨u, hu⟩ := bnd_var hb hx
      simp [appT, hu, look_of hS (hsub _ (look_mem hu))]
    · have hv0 : isV (.mk n l) = false := by simpa using hv
      rw [app_same hV n l hv0, app_same hV1 n l hv0]
      congr 1
      exact List.map_congr_left fun x hx => ih x hx (bnd_arg hb hx)
theorem len_sub : ∀ (s s1 : List Bd), Srt s → Srt s1 → (∀ y ∈ s1, y ∈ s) → s1.length ≤ s.length
  | [], s1, _, _, h => by
    cases s1 with
    | nil => exact Nat.le_refl _
    | cons a r => have := h a (by simp); cases this
  | a :: r, [], _, _, _ => Nat.zero_le _
  | a :: r, b :: r1, hS, hS1, h => by
    have irr : ∀ x : Bd, ¬ lexB x.1.data.toList x.1.data.toList < 0 := fun x => by rw [(lex_zero _ _).2 rfl]; decide
    rcases List.mem_cons.1 (h b (by simp)) with hba | hbr
    · have := len_sub r r1 (srt_tail hS) (srt_tail hS1) (fun y hy => by
        rcases List.mem_cons.1 (h y (by simp [hy])) with e | e
        · have h1 := srt_head hS1 hy
          rw [e, hba] at h1
          exact absurd h1 (irr a)
        · exact e)
      simp only [List.length_cons]
      omega
    · have hab := srt_head hS hbr
      have := len_sub r (b :: r1) (srt_tail hS) hS1 (fun y hy => by
        rcases List.mem_cons.1 (h y hy) with e | e
        · rcases List.mem_cons.1 hy with e2 | e2
          · rw [e2]; exact hbr
          · have h1 := srt_head hS1 e2
            rw [e] at h1
            have h2 := (tri_lex a.1.data.toList b.1.data.toList a.1.data.toList).2.1 hab (by omega)
            exact absurd h2 (irr a)
        · exact e)
      simp only [List.length_cons] at this ⊢
      omega
theorem leaf_keep {s : List Bd} (hV : ∀ b ∈ s, varB b.1 = true) {v : ByteArray} (hn : lookS s v = none) (p : Tm) : v ∈ leavesT p → v ∈ leavesT (appT s p) := by
  induction p using Tm.ind with
  | h n l ih =>
    intro h
    cases l with
    | nil =>
      have : v = n := by simpa [leavesT] using h
      subst this
      simp [appT, hn, leavesT]
    | cons a r =>
      have hv0 : isV (.mk n (a :: r)) = false := by simp [isV, Tm.args]
      rw [app_same hV n (a :: r) hv0]
      unfold leavesT at h ⊢
      simp only [List.isEmpty_cons, List.map_cons, Bool.false_eq_true, if_false] at h ⊢
      obtain ⟨x, hx, hv⟩ := leaves_mem.1 h
      rw [← List.map_cons]
      exact leaves_mem.2 ⟨appT s x, List.mem_map_of_mem hx, ih x hx hv⟩
theorem bnd_of {s : List Bd} (hV : ∀ b ∈ s, varB b.1 = true) {p : Tm} (h : validT true 4 (appT s p) = true) : Bnd s p := by
  intro v hv hx
  cases hl : lookS s v with
  | some u => exact ⟨u, rfl⟩
  | none =>
    have := ((ground_leaf 4 _).1 h).2 v (leaf_keep hV hl p hv)
    rw [hx] at this
    cases this
/-- A ground instance of a pattern is matched. -/
theorem inst {s : List Bd} {p : Tm} (hs : vldS s = true) (hg : validT true 4 (appT s p) = true) :
    matchP p (appT s p) s = some s ∧ ∃ t, matchP p (appT s p) [] = some t ∧ appT t p = appT s p ∧ Srt t ∧ t.length ≤ 64 ∧ ∀ y ∈ t, y ∈ s := by
  have hV : ∀ b ∈ s, varB b.1 = true := fun b hb => (vld_all hs b hb).1
  have hb := bnd_of hV hg
  obtain ⟨hS, h64⟩ := vld_srt hs
  refine ⟨by unfold matchP; rw [hs, hg]; exact ext_self true s hV p hb, ?_⟩
  have h0 : Srt [] := fun i j a b _ ha _ => by simp at ha
  obtain ⟨t, e, b, c, _, f⟩ := ext_inst s hS hV p [] hb h0 (fun y hy => by cases hy)
  have hl := len_sub s t hS b c
  refine ⟨t, ?_, app_sub hS hV c p f, b, by omega, c⟩
  unfold matchP
  rw [hg, show vldS [] = true from rfl]
  show extP true p (appT s p) [] = some t
  rw [ext_lim p _ [] h0 (Nat.zero_le _), e]
  unfold cut64
  simp only
  rw [if_pos (by omega)]
end UniY
end Go.Proofs.YtjfgnmmcdgpiiaaGreatDoor
