/- Matching as plain functions, of the code (with the limit of bindings) and of the reference; where they agree. No conditions. -/
import Derived.Test.YtihbnonbhelbmaaGreatDoorUniE
import Derived.Test.YtihbnonbhelbmaaGreatDoorUniG
namespace Go.Proofs.YtihbnonbhelbmaaGreatDoor
open Go
namespace UniO
open LexM TermM UniM UniA UniC UniE UniG
def putS (b : Bd) : List Bd → List Bd
  | [] => [b]
  | x :: r => if ltB b.1 x.1 then b :: x :: r else x :: putS b r
def bindP (lim : Bool) (s : List Bd) (v : ByteArray) (t : Tm) : Option (List Bd) :=
  match lookS s v with
  | some u => if cmpT u t = 0 then some s else none
  | none => if (lim && decide (s.length = 64)) = true then none else some (putS (v, t) s)
mutual
def extP (lim : Bool) : Tm → Tm → List Bd → Option (List Bd)
  | .mk n l, t, s => if isV (.mk n l) then bindP lim s n t else if eqB n t.nm && decide (l.length = t.args.length) then extL lim l t.args s else none
def extL (lim : Bool) : List Tm → List Tm → List Bd → Option (List Bd)
  | [], _, s => some s
  | _ :: _, [], _ => none
  | p :: l, t :: r, s => match extP lim p t s with
    | some s' => extL lim l r s'
    | none => none
end
def matchP (p t : Tm) (s : List Bd) : Option (List Bd) := if vldS s && validT true 4 t then extP true p t s else none
theorem put_len (b : Bd) : ∀ s, (putS b s).length = s.length + 1
  | [] => rfl
  | x :: r => by
    unfold putS
    split
    · rfl
    · simp [put_len b r]
theorem put_mem {b y : Bd} : ∀ {s}, y ∈ putS b s ↔ y = b ∨ y ∈ s
  | [] => by simp [putS]
  | x :: r => by
    unfold putS
    split
    · simp
    · simp only [List.mem_cons, put_mem (s := r)]
      constructor
      · rintro (h | h | h) <;> simp [h]
      · rintro (h | h | h) <;> simp [h]
theorem lex_lt {a b : ByteArray} : ltB a b = true ↔ 0 < lexB b.data.toList a.data.toList := by
  rw [lt_lex]
  have := lex_neg a.data.toList b.data.toList
  omega
theorem srt_tail {x : Bd} {r : List Bd} (h : Srt (x :: r)) : Srt r := fun i j a b hij ha hb => h (i + 1) (j + 1) a b (by omega) (by simpa using ha) (by simpa using hb)
theorem srt_head {x : Bd} {r : List Bd} (h : Srt (x :: r)) {y : Bd} (hy : y ∈ r) : lexB x.1.data.toList y.1.data.toList < 0 := by
  obtain ⟨j, hj⟩ := List.mem_iff_getElem?.1 hy
  exact h 0 (j + 1) x y (by omega) rfl (by simpa using hj)
theorem srt_cons {x : Bd} {r : List Bd} (h : Srt r) (hx : ∀ y ∈ r, lexB x.1.data.toList y.1.data.toList < 0) : Srt (x :: r) := by
  intro i j a b hij ha hb
  cases j with
  | zero => omega
  | succ j =>
    cases i with
    | zero =>
      simp at ha
      subst ha
      exact hx b (List.mem_of_getElem? (by simpa using hb))
    | succ i => exact h i j a b (by omega) (by simpa using ha) (by simpa using hb)
theorem look_cons {x : Bd} {r : List Bd} {v : ByteArray} (h : lookS (x :: r) v = none) : lexB x.1.data.toList v.data.toList ≠ 0 ∧ lookS r v = none := by
  unfold lookS at h ⊢
  rw [List.find?_cons] at h
  cases he : eqB x.1 v with
  | true => simp [he] at h
  | false =>
    refine ⟨fun h0 => ?_, by simpa [he] using h⟩
    rw [eq_lex.2 h0] at he
    cases he
theorem put_srt (v : ByteArray) (t : Tm) : ∀ s, Srt s → lookS s v = none → Srt (putS (v, t) s)
  | [], _, _ => by
    intro i j a b hij ha hb
    have hl := (List.getElem?_eq_some_iff.1 hb).1
    simp [putS] at hl
    omega
  | x :: r, hS, h => by
    obtain ⟨h0, h1⟩ := look_cons h
    unfold putS
    split
    · rename_i hlt
      rw [lt_lex] at hlt
      refine srt_cons hS fun y hy => ?_
      rcases List.mem_cons.1 hy with rfl | hy
      · exact hlt
      · have a1 := srt_head hS hy
        exact (tri_lex v.data.toList x.1.data.toList y.1.data.toList).2.1 hlt (by omega)
    · rename_i hlt
      rw [lt_lex] at hlt
      refine srt_cons (put_srt v t r (srt_tail hS) h1) fun y hy => ?_
      rcases put_mem.1 hy with rfl | hy
      · have a1 := lex_neg x.1.data.toList v.data.toList
        dsimp only at hlt
        show lexB x.1.data.toList v.data.toList < 0
        omega
      · exact srt_head hS hy
/-- Where binary search ends, the binding is put. -/
theorem put_at (v : ByteArray) (t : Tm) : ∀ (s : List Bd) (i : Nat), i ≤ s.length → (∀ (j : Nat) (y : Bd), j < i → s[j]? = some y → lexB y.1.data.toList v.data.toList < 0) → (∀ (j : Nat) (y : Bd), i ≤ j → s[j]? = some y → 0 ≤ lexB y.1.data.toList v.data.toList) → lookS s v = none → s.take i ++ (v, t) :: s.drop i = putS (v, t) s
  | [], i, hi, _, _, _ => by
    obtain rfl : i = 0 := by simpa using hi
    rfl
  | x :: r, 0, _, _, h2, h => by
    obtain ⟨h0, _⟩ := look_cons h
    have a := h2 0 x (Nat.le_refl _) rfl
    have : ltB v x.1 = true := lex_lt.2 (by omega)
    simp [putS, this]
  | x :: r, i + 1, hi, h1, h2, h => by
    obtain ⟨h0, hr⟩ := look_cons h
    have a := h1 0 x (by omega) rfl
    have hf : ltB v x.1 = false := by
      cases hc : ltB v x.1 with
      | false => rfl
      | true => have := lex_lt.1 hc; omega
    have ih := put_at v t r i (by simpa using hi) (fun j y hj hy => h1 (j + 1) y (by omega) (by simpa using hy)) (fun j y hj hy => h2 (j + 1) y (by omega) (by simpa using hy)) hr
    unfold putS
    simp only [hf, Bool.false_eq_true, if_false, List.take_succ_cons, List.drop_succ_cons, List.cons_append, ih]
/-- What holds of what is extended. -/
theorem bind_srt {lim : Bool} {s s' : List Bd} {v : ByteArray} {t : Tm} (hS : Srt s) (h : bindP lim s v t = some s') : Srt s' ∧ s.length ≤ s'.length ∧ s'.length ≤ s.length + 1 ∧ (lim = true → s.length ≤ 64 → s'.length ≤ 64) := by
  unfold bindP at h
  split at h
  · split at h
    · cases h; exact ⟨hS, Nat.le_refl _, by omega, fun _ h => h⟩
    · cases h
  · rename_i hl
    split at h
    · cases h
    · rename_i hc
      cases h
      refine ⟨put_srt v t s hS hl, by rw [put_len]; omega, by rw [put_len]; omega, fun e hs => ?_⟩
      subst e
      have : ¬ s.length = 64 := by simpa using hc
      rw [put_len]
      omega
theorem bind_lim {s s' : List Bd} {v : ByteArray} {t : Tm} (h : bindP false s v t = some s') : bindP true s v t = if s.length ≤ 64 ∧ 64 < s'.length then none else some s' := by
  unfold bindP at h ⊢
  split at h
  · rename_i u hu
    split at h
    · cases h
      have : ¬ (s.length ≤ 64 ∧ 64 < s.length) := by omega
      simp_all
    · cases h
  · simp only [Bool.false_and, Bool.false_eq_true, if_false, Option.some.injEq] at h
    subst h
    rw [put_len]
    by_cases hc : s.length = 64
    · rw [if_pos (by simp [hc]), if_pos (by omega)]
    · rw [if_neg (by simp [hc])]
      rw [if_neg (by omega)]
theorem ext_list {lim : Bool} {l r : List Tm} {k : Nat} {p t : Tm} (hp : l[k]? = some p) (ht : r[k]? = some t) (s : List Bd) : extL lim (l.drop k) (r.drop k) s = match extP lim p t s with
    | some s' => extL lim (l.drop (k + 1)) (r.drop (k + 1)) s'
    | none => none := by
  obtain ⟨h1, rfl⟩ := List.getElem?_eq_some_iff.1 hp
  obtain ⟨h2, rfl⟩ := List.getElem?_eq_some_iff.1 ht
  rw [List.drop_eq_getElem_cons h1, List.drop_eq_getElem_cons h2]
  rfl
/-- What an extension keeps. -/
def Keeps (lim : Bool) (n : Nat) (s s' : List Bd) : Prop := Srt s' ∧ s.length ≤ s'.length ∧ s'.length ≤ s.length + n ∧ (lim = true → s.length ≤ 64 → s'.length ≤ 64)
theorem ext_keeps (lim : Bool) (p : Tm) : ∀ (t : Tm) (s s' : List Bd), Srt s → extP lim p t s = some s' → Keeps lim (sizeT p) s s' := by
  induction p using Tm.ind with
  | h n l ih =>
    intro t s s' hS h
    unfold extP at h
    split at h
    · obtain ⟨a, b, c, d⟩ := bind_srt hS h
      exact ⟨a, b, by simp only [sizeT]; omega, d⟩
    · split at h
      · have key : ∀ (l : List Tm), (∀ x ∈ l, ∀ (t : Tm) (s s' : List Bd), Srt s → extP lim x t s = some s' → Keeps lim (sizeT x) s s') → ∀ (r : List Tm) (s s' : List Bd), Srt s → extL lim l r s = some s' → Keeps lim (sizeL l) s s' := by
          intro l
          induction l with
          | nil =>
            intro _ r s s' hS h
            unfold extL at h
            cases h
            exact ⟨hS, Nat.le_refl _, by omega, fun _ h => h⟩
          | cons a l ihl =>
            intro hx r s s' hS h
            cases r with
            | nil => unfold extL at h; cases h
            | cons t r =>
              unfold extL at h
              split at h
              · rename_i s1 h1
                obtain ⟨a1, a2, a3, a4⟩ := hx a (by simp) t s s1 hS h1
                obtain ⟨b1, b2, b3, b4⟩ := ihl (fun x hx' => hx x (by simp [hx'])) r s1 s' a1 h
                exact ⟨b1, by omega, by simp only [sizeL]; omega, fun e h => b4 e (a4 e h)⟩
              · cases h
        obtain ⟨a, b, c, d⟩ := key l ih t.args s s' hS h
        exact ⟨a, b, by simp only [sizeT]; omega, d⟩
      · cases h
end UniO
end Go.Proofs.YtihbnonbhelbmaaGreatDoor
