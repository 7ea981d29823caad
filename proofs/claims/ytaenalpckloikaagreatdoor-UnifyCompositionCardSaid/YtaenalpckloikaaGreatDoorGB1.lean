/- Texts laid together: TermU1; UnuA; UnuB; UnjA; UnnC; UnuC. Their own heads stand before each. -/
import Derived.Test.YtaenalpckloikaaGreatDoorGA1
import Derived.Test.YtaenalpckloikaaGreatDoorGA14
import Derived.Test.YtaenalpckloikaaGreatDoorGA19
import Derived.Test.YtaenalpckloikaaGreatDoorGA13
import Derived.Test.YtaenalpckloikaaGreatDoorGA12
import Derived.Test.YtaenalpckloikaaGreatDoorGA11
import Derived.Lib.SlicesCompact
/- Valid terms with equal texts are equal; how long a valid term's text is. No conditions. -/
namespace Go.Proofs.YtaenalpckloikaaGreatDoor
open Go
namespace TermU1
open LexM TermM
/-- None of the bytes that end names. -/
def okb (b : UInt8) : Prop := b ≠ 40 ∧ b ≠ 41 ∧ b ≠ 44
def okl (l : List UInt8) : Prop := ∀ b ∈ l, okb b
theorem ok_of {p : Int → Bool} (hp : ∀ b : UInt8, p b.toNat = true → okb b) {l : List UInt8} (h : allB p l = true) : okl l := by
  intro b hb
  unfold allB at h
  exact hp b (List.all_eq_true.1 h b hb)
theorem ok_nat {b : UInt8} (h : b.toNat ≠ 40 ∧ b.toNat ≠ 41 ∧ b.toNat ≠ 44) : okb b :=
  ⟨fun e => h.1 (by rw [e]; rfl), fun e => h.2.1 (by rw [e]; rfl), fun e => h.2.2 (by rw [e]; rfl)⟩
theorem ok_name {l : List UInt8} (h : nameL l = true) : okl l ∧ l.length ≤ 16 := by
  unfold nameL at h
  simp only [Bool.and_eq_true, decide_eq_true_eq] at h
  refine ⟨ok_of (p := nmB) (fun b hb => ok_nat ?_) h.2, h.1.1.1⟩
  unfold nmB loB dgB at hb
  simp at hb
  omega
theorem ok_var {l : List UInt8} (h : varL l = true) : okl l ∧ l.length ≤ 16 := by
  unfold varL at h
  simp only [Bool.and_eq_true, decide_eq_true_eq] at h
  refine ⟨ok_of (p := vrB) (fun b hb => ok_nat ?_) h.2, h.1.1⟩
  unfold vrB loB upB dgB at hb
  simp at hb
  omega
theorem ok_num {l : List UInt8} (h : isNum l = true) : okl l ∧ l.length ≤ 16 := by
  unfold isNum at h
  simp only [Bool.and_eq_true, decide_eq_true_eq] at h
  refine ⟨ok_of (p := dgB) (fun b hb => ok_nat ?_) h.2, by omega⟩
  unfold dgB at hb
  simp at hb
  omega
theorem valid_parts {g : Bool} {d : Nat} {n : ByteArray} {l : List Tm} (h : validT g (d + 1) (.mk n l) = true) : okl n.data.toList ∧ n.data.toList.length ≤ 16 ∧ ∀ t ∈ l, validT g d t = true := by
  simp only [validT] at h
  split at h
  · rename_i he
    have hl : l = [] := by simpa using he
    subst hl
    have hk : okl n.data.toList ∧ n.data.toList.length ≤ 16 := by
      unfold conB numB nameB varB at h
      simp only [Bool.or_eq_true, Bool.and_eq_true] at h
      rcases h with (h | h) | ⟨_, h⟩
      · exact ok_num h
      · exact ok_name h
      · exact ok_var h
    exact ⟨hk.1, hk.2, fun t ht => by simp at ht⟩
  · simp only [Bool.and_eq_true, decide_eq_true_eq] at h
    have hk := ok_name (l := n.data.toList) h.1.2
    exact ⟨hk.1, hk.2, fun t ht => List.all_eq_true.1 h.2 t ht⟩
/-- A rest that begins with a byte that ends names, or is nothing. -/
def stop (r : List UInt8) : Prop := ∀ b x, r = b :: x → b = 40 ∨ b = 41 ∨ b = 44
theorem split_name : ∀ (n m x y : List UInt8), okl n → okl m → stop x → stop y → n ++ x = m ++ y → n = m ∧ x = y
  | [], [], x, y, _, _, _, _, h => ⟨rfl, h⟩
  | [], b :: m, x, y, _, hm, hx, _, h => by
    have := hx b (m ++ y) (by simpa using h)
    have hb := hm b (by simp)
    unfold okb at hb
    rcases this with e | e | e <;> simp [e] at hb
  | a :: n, [], x, y, hn, _, _, hy, h => by
    have := hy a (n ++ x) (by simpa using h.symm)
    have hb := hn a (by simp)
    unfold okb at hb
    rcases this with e | e | e <;> simp [e] at hb
  | a :: n, b :: m, x, y, hn, hm, hx, hy, h => by
    simp only [List.cons_append, List.cons.injEq] at h
    obtain ⟨h1, h2⟩ := split_name n m x y (fun c hc => hn c (by simp [hc])) (fun c hc => hm c (by simp [hc])) hx hy h.2
    exact ⟨by rw [h.1, h1], h2⟩
/-- What may follow an argument: ',' or ')', or nothing. -/
def stopA (r : List UInt8) : Prop := ∀ b x, r = b :: x → b = 41 ∨ b = 44
theorem stop_of {r : List UInt8} (h : stopA r) : stop r := fun b x e => by rcases h b x e with h | h; exact Or.inr (Or.inl h); exact Or.inr (Or.inr h)
theorem stopA_tail (l : List Tm) (r : List UInt8) : stopA (tailT l ++ 41 :: r) := by
  intro b x e
  cases l with
  | nil => simp [tailT] at e; exact Or.inl e.1.symm
  | cons a l => simp [tailT] at e; exact Or.inr e.1.symm
theorem text_inj (g : Bool) : ∀ (d : Nat) (a b : Tm) (r s : List UInt8), validT g d a = true → validT g d b = true → stopA r → stopA s → textT a ++ r = textT b ++ s → a = b ∧ r = s
  | 0, a, b, r, s, ha, _, _, _, _ => by simp [validT] at ha
  | d + 1, .mk n l, .mk m k, r, s, ha, hb, hr, hs, h => by
    obtain ⟨a1, _, a3⟩ := valid_parts ha
    obtain ⟨b1, _, b3⟩ := valid_parts hb
    simp only [textT, List.append_assoc] at h
    have args : ∀ (l k : List Tm) (r s : List UInt8), (∀ t ∈ l, validT g d t = true) → (∀ t ∈ k, validT g d t = true) → tailT l ++ 41 :: r = tailT k ++ 41 :: s → l = k ∧ r = s := by
      intro l
      induction l with
      | nil =>
        intro k r s _ _ h
        cases k with
        | nil => simp [tailT] at h; exact ⟨rfl, h⟩
        | cons b k => simp [tailT] at h
      | cons a l ih =>
        intro k r s hl hk h
        cases k with
        | nil => simp [tailT] at h
        | cons b k =>
          simp only [tailT, List.cons_append, List.append_assoc, List.cons.injEq, true_and] at h
          obtain ⟨h1, h2⟩ := text_inj g d a b _ _ (hl a (by simp)) (hk b (by simp)) (stopA_tail l r) (stopA_tail k s) h
          obtain ⟨h3, h4⟩ := ih k r s (fun t ht => hl t (by simp [ht])) (fun t ht => hk t (by simp [ht])) h2
          exact ⟨by rw [h1, h3], h4⟩
    have st : ∀ (l : List Tm) (r : List UInt8), stopA r → stop ((if l.isEmpty then [] else 40 :: ((tailT l).drop 1 ++ [41])) ++ r) := by
      intro l r hr b x e
      split at e
      · exact stop_of hr b x (by simpa using e)
      · simp at e; exact Or.inl e.1.symm
    obtain ⟨h1, h2⟩ := split_name _ _ _ _ a1 b1 (st l r hr) (st k s hs) h
    have hnm : n = m := bytes_inj h1
    subst hnm
    cases l with
    | nil =>
      cases k with
      | nil => simp at h2; exact ⟨rfl, h2⟩
      | cons b k =>
        simp at h2
        have := hr 40 _ h2
        simp at this
    | cons a l =>
      cases k with
      | nil =>
        simp at h2
        have := hs 40 _ h2.symm
        simp at this
      | cons b k =>
        simp [tailT] at h2
        obtain ⟨h3, h4⟩ := text_inj g d a b _ _ (a3 a (by simp)) (b3 b (by simp)) (stopA_tail l r) (stopA_tail k s) (by simpa using h2)
        obtain ⟨h5, h6⟩ := args l k r s (fun t ht => a3 t (by simp [ht])) (fun t ht => b3 t (by simp [ht])) h4
        exact ⟨by rw [h3, h5], h6⟩
theorem valid_text {a b : Tm} (ha : validT false 4 a = true) (hb : validT false 4 b = true) : textT a = textT b ↔ a = b := by
  constructor
  · intro h
    exact (text_inj false 4 a b [] [] ha hb (fun b x e => by simp at e) (fun b x e => by simp at e) (by simpa using h)).1
  · intro h; rw [h]
theorem text_len (g : Bool) : ∀ (d : Nat) (t : Tm), validT g d t = true → (textT t).length + 1 ≤ 19 * sizeT t
  | 0, t, h => by simp [validT] at h
  | d + 1, .mk n l, h => by
    obtain ⟨_, h2, h3⟩ := valid_parts h
    have tl : ∀ l : List Tm, (∀ t ∈ l, validT g d t = true) → (tailT l).length ≤ 19 * sizeL l := by
      intro l
      induction l with
      | nil => intro _; simp [tailT]
      | cons a l ih =>
        intro hl
        have h1 := text_len g d a (hl a (by simp))
        have h2 := ih (fun t ht => hl t (by simp [ht]))
        simp only [tailT, sizeL, List.length_append, List.length_cons]
        omega
    have h4 := tl l h3
    simp only [textT, sizeT, List.length_append]
    split
    · simp only [List.length_nil]; omega
    · simp only [List.length_cons, List.length_append, List.length_drop, List.length_nil]; omega
end TermU1
end Go.Proofs.YtaenalpckloikaaGreatDoor
/- Substitutions of variables as functions: their effect on terms, leaves, depths and sizes. No conditions. -/
namespace Go.Proofs.YtaenalpckloikaaGreatDoor
open Go
namespace UnuA
open LexM TermM UniM UniC UniG UniH UniO UniY
abbrev Sb := ByteArray → Tm
mutual
/-- A function of the variables, applied to a term. -/
def subT (σ : Sb) : Tm → Tm
  | .mk n l => if l.isEmpty && varB n then σ n else .mk n (subL σ l)
def subL (σ : Sb) : List Tm → List Tm
  | [] => []
  | t :: l => subT σ t :: subL σ l
end
theorem subL_map (σ : Sb) : ∀ l, subL σ l = l.map (subT σ)
  | [] => rfl
  | t :: l => by simp [subL, subL_map σ l]
theorem sub_var (σ : Sb) {n : ByteArray} (h : varB n = true) : subT σ (.mk n []) = σ n := by simp [subT, h]
theorem sub_fun (σ : Sb) (n : ByteArray) (l : List Tm) (h : isV (.mk n l) = false) : subT σ (.mk n l) = .mk n (l.map (subT σ)) := by
  unfold isV at h
  simp only [Tm.args, Tm.nm] at h
  unfold subT
  rw [h, subL_map]
  rfl
theorem isv_args {t : Tm} (h : isV t = true) : t = .mk t.nm [] ∧ varB t.nm = true := by
  obtain ⟨n, l⟩ := t
  obtain ⟨rfl, h⟩ := isv_nil h
  exact ⟨rfl, h⟩
theorem isv_mk {n : ByteArray} (h : varB n = true) : isV (.mk n []) = true := by simp [isV, Tm.args, Tm.nm, h]
theorem isv_cons (n : ByteArray) (x : Tm) (l : List Tm) : isV (.mk n (x :: l)) = false := by simp [isV, Tm.args]
/-- What a list of bindings makes of a variable. -/
def asF (s : List Bd) : Sb := fun v => (lookS s v).getD (.mk v [])
theorem app_sub {s : List Bd} (hV : ∀ b ∈ s, varB b.1 = true) (t : Tm) : appT s t = subT (asF s) t := by
  induction t using Tm.ind with
  | h n l ih =>
    cases hv : isV (.mk n l)
    · rw [app_same hV n l hv, sub_fun _ n l hv]
      congr 1
      exact List.map_congr_left ih
    · obtain ⟨rfl, hn⟩ := isv_nil hv
      rw [sub_var _ hn]
      simp [appT, asF]
theorem leaves_fun (n : ByteArray) {l : List Tm} (h : l ≠ []) : leavesT (.mk n l) = leavesL l := by
  cases l with
  | nil => exact absurd rfl h
  | cons a r => simp [leavesT]
theorem leaf_arg {v n : ByteArray} {l : List Tm} {x : Tm} (hx : x ∈ l) (hv : v ∈ leavesT x) : v ∈ leavesT (.mk n l) := by
  rw [leaves_fun n (by intro h; rw [h] at hx; cases hx)]
  exact leaves_mem.2 ⟨x, hx, hv⟩
/-- A variable that is a leaf of a term that is no variable is a leaf of an argument. -/
theorem leaf_fun {v n : ByteArray} {l : List Tm} (hf : isV (.mk n l) = false) (hv : v ∈ leavesT (.mk n l)) (hb : varB v = true) : ∃ x ∈ l, v ∈ leavesT x := by
  cases l with
  | nil =>
    have : v = n := by simpa [leavesT] using hv
    subst this
    rw [isv_mk hb] at hf
    cases hf
  | cons a r =>
    rw [leaves_fun n (by simp)] at hv
    exact leaves_mem.1 hv
theorem sub_congr {σ τ : Sb} (t : Tm) : (∀ v ∈ leavesT t, varB v = true → σ v = τ v) → subT σ t = subT τ t := by
  induction t using Tm.ind with
  | h n l ih =>
    intro h
    cases hv : isV (.mk n l)
    · rw [sub_fun _ n l hv, sub_fun _ n l hv]
      congr 1
      exact List.map_congr_left fun x hx => ih x hx fun v h1 h2 => h v (leaf_arg hx h1) h2
    · obtain ⟨rfl, hn⟩ := isv_nil hv
      rw [sub_var _ hn, sub_var _ hn]
      exact h n (by simp [leavesT]) hn
theorem sub_id {σ : Sb} (t : Tm) : (∀ v ∈ leavesT t, varB v = true → σ v = .mk v []) → subT σ t = t := by
  induction t using Tm.ind with
  | h n l ih =>
    intro h
    cases hv : isV (.mk n l)
    · rw [sub_fun _ n l hv]
      congr 1
      exact (List.map_congr_left fun x hx => ih x hx fun v h1 h2 => h v (leaf_arg hx h1) h2).trans (List.map_id _)
    · obtain ⟨rfl, hn⟩ := isv_nil hv
      rw [sub_var _ hn]
      exact h n (by simp [leavesT]) hn
theorem map_fix {f : Tm → Tm} : ∀ {l : List Tm}, l.map f = l → ∀ x ∈ l, f x = x
  | [], _, x, hx => by cases hx
  | a :: r, h, x, hx => by
    rw [List.map_cons] at h
    injection h with h1 h2
    rcases List.mem_cons.1 hx with rfl | hx
    · exact h1
    · exact map_fix h2 x hx
theorem map_eq2 {f g : Tm → Tm} : ∀ {l r : List Tm}, l.map f = r.map g → ∀ (i : Nat) (x y : Tm), l[i]? = some x → r[i]? = some y → f x = g y := by
  intro l r h i x y hx hy
  have : (l.map f)[i]? = (r.map g)[i]? := by rw [h]
  rw [List.getElem?_map, List.getElem?_map, hx, hy] at this
  simpa using this
theorem sub_fix {σ : Sb} (t : Tm) : subT σ t = t → ∀ v ∈ leavesT t, varB v = true → σ v = .mk v [] := by
  induction t using Tm.ind with
  | h n l ih =>
    intro h v h1 h2
    cases hv : isV (.mk n l)
    · rw [sub_fun _ n l hv] at h
      injection h with _ h
      obtain ⟨x, hx, hl⟩ := leaf_fun hv h1 h2
      exact ih x hx (map_fix h x hx) v hl h2
    · obtain ⟨rfl, hn⟩ := isv_nil hv
      have : v = n := by simpa [leavesT] using h1
      subst this
      rw [sub_var _ hn] at h
      exact h
theorem sub_comp (σ τ : Sb) (t : Tm) : subT σ (subT τ t) = subT (fun v => subT σ (τ v)) t := by
  induction t using Tm.ind with
  | h n l ih =>
    cases hv : isV (.mk n l)
    · rw [sub_fun _ n l hv, sub_fun _ n l hv]
      have hv' : isV (.mk n (l.map (subT τ))) = false := by
        cases l with
        | nil => exact hv
        | cons a r => exact isv_cons _ _ _
      rw [sub_fun _ _ _ hv', List.map_map]
      congr 1
      exact List.map_congr_left ih
    · obtain ⟨rfl, hn⟩ := isv_nil hv
      rw [sub_var _ hn, sub_var _ hn]
/-! ### Depth and size -/
theorem depthL_mem {x : Tm} : ∀ {l : List Tm}, x ∈ l → depthT x ≤ depthL l
  | [], h => by cases h
  | a :: r, h => by
    unfold depthL
    rcases List.mem_cons.1 h with rfl | h
    · omega
    · have := depthL_mem h; omega
theorem depthL_le {k : Nat} : ∀ {l : List Tm}, (∀ x ∈ l, depthT x ≤ k) → depthL l ≤ k
  | [], _ => by simp [depthL]
  | a :: r, h => by
    unfold depthL
    have h1 := h a (by simp)
    have h2 := depthL_le (l := r) fun x hx => h x (by simp [hx])
    omega
theorem depth_pos (t : Tm) : 1 ≤ depthT t := by
  obtain ⟨n, l⟩ := t
  simp [depthT]
theorem depth_arg {n : ByteArray} {l : List Tm} {x : Tm} (h : x ∈ l) : depthT x + 1 ≤ depthT (.mk n l) := by
  have := depthL_mem h
  simp only [depthT]
  omega
theorem depth_le {n : ByteArray} {l : List Tm} {k : Nat} (h : ∀ x ∈ l, depthT x ≤ k) : depthT (.mk n l) ≤ k + 1 := by
  have := depthL_le h
  simp only [depthT]
  omega
theorem depth_sub (σ : Sb) (t : Tm) : depthT t ≤ depthT (subT σ t) := by
  induction t using Tm.ind with
  | h n l ih =>
    cases hv : isV (.mk n l)
    · rw [sub_fun _ n l hv]
      have h1 : depthL l ≤ depthL (l.map (subT σ)) := depthL_le fun x hx => Nat.le_trans (ih x hx) (depthL_mem (List.mem_map_of_mem hx))
      simp only [depthT]
      omega
    · obtain ⟨rfl, hn⟩ := isv_nil hv
      have := depth_pos (subT σ (.mk n []))
      simp only [depthT, depthL]
      omega
theorem sizeL_mem {x : Tm} : ∀ {l : List Tm}, x ∈ l → sizeT x ≤ sizeL l
  | [], h => by cases h
  | a :: r, h => by
    unfold sizeL
    rcases List.mem_cons.1 h with rfl | h
    · omega
    · have := sizeL_mem h; omega
theorem size_leaf (σ : Sb) (v : ByteArray) (hb : varB v = true) (t : Tm) : v ∈ leavesT t → sizeT (σ v) ≤ sizeT (subT σ t) := by
  induction t using Tm.ind with
  | h n l ih =>
    intro h
    cases hv : isV (.mk n l)
    · obtain ⟨x, hx, hl⟩ := leaf_fun hv h hb
      rw [sub_fun _ n l hv]
      have h1 := ih x hx hl
      have h2 := sizeL_mem (List.mem_map_of_mem (f := subT σ) hx)
      simp only [sizeT]
      omega
    · obtain ⟨rfl, hn⟩ := isv_nil hv
      have : v = n := by simpa [leavesT] using h
      subst this
      rw [sub_var _ hn]
      exact Nat.le_refl _
/-- A variable never becomes a term that it is a part of. -/
theorem occurs_no (σ : Sb) {v : ByteArray} (hb : varB v = true) {t : Tm} (h : v ∈ leavesT t) (hf : isV t = false) : σ v ≠ subT σ t := by
  obtain ⟨n, l⟩ := t
  obtain ⟨x, hx, hl⟩ := leaf_fun hf h hb
  intro e
  have h1 := size_leaf σ v hb x hl
  have h2 := sizeL_mem (List.mem_map_of_mem (f := subT σ) hx)
  rw [sub_fun _ n l hf] at e
  rw [e] at h1
  simp only [sizeT] at h1
  omega
/-! ### Validity -/
theorem valid_mono {g : Bool} : ∀ {d e : Nat} {t : Tm}, d ≤ e → validT g d t = true → validT g e t = true
  | 0, e, t, _, h => by simp [validT] at h
  | d + 1, 0, t, h0, h => by omega
  | d + 1, e + 1, .mk n l, h0, h => by
    unfold validT at h ⊢
    split at h
    · next hl => rw [if_pos hl]; exact h
    · next hl =>
      rw [if_neg hl]
      rw [Bool.and_eq_true] at h ⊢
      refine ⟨h.1, ?_⟩
      rw [List.all_eq_true] at h ⊢
      exact fun x hx => valid_mono (by omega) (h.2 x hx)
theorem valid_depth {g : Bool} : ∀ {d : Nat} {t : Tm}, validT g d t = true → depthT t ≤ d
  | 0, t, h => by simp [validT] at h
  | d + 1, .mk n l, h => by
    unfold validT at h
    split at h
    · next hl =>
      have : l = [] := by simpa using hl
      subst this
      simp [depthT, depthL]
    · rw [Bool.and_eq_true, List.all_eq_true] at h
      exact depth_le fun x hx => valid_depth (h.2 x hx)
theorem valid_at {g : Bool} : ∀ {d k : Nat} {t : Tm}, validT g d t = true → depthT t ≤ k → validT g k t = true
  | 0, k, t, h, _ => by simp [validT] at h
  | d + 1, 0, t, h, h0 => by have := depth_pos t; omega
  | d + 1, k + 1, .mk n l, h, h0 => by
    unfold validT at h ⊢
    split at h
    · next hl => rw [if_pos hl]; exact h
    · next hl =>
      rw [if_neg hl]
      rw [Bool.and_eq_true] at h ⊢
      refine ⟨h.1, ?_⟩
      rw [List.all_eq_true] at h ⊢
      exact fun x hx => valid_at (h.2 x hx) (by have := depth_arg (n := n) hx; omega)
theorem valid_arg {g : Bool} {d : Nat} {n : ByteArray} {l : List Tm} (h : validT g d (.mk n l) = true) {x : Tm} (hx : x ∈ l) : validT g d x = true := by
  cases d with
  | zero => simp [validT] at h
  | succ d =>
    unfold validT at h
    split at h
    · next hl =>
      have : l = [] := by simpa using hl
      subst this
      cases hx
    · rw [Bool.and_eq_true, List.all_eq_true] at h
      exact valid_mono (by omega) (h.2 x hx)
theorem valid_var {v : ByteArray} (h : varB v = true) (d : Nat) : validT false (d + 1) (.mk v []) = true := by simp [validT, h]
theorem name_var {v : ByteArray} (h : varB v = true) : nameB v = false := by
  cases hn : nameB v
  · rfl
  · unfold varB varL at h
    unfold nameB nameL at hn
    simp only [Bool.and_eq_true] at h hn
    have h1 := h.1.2
    have h2 := hn.1.1.2
    revert h1 h2
    cases v.data.toList with
    | nil => intro h; simp [headB] at h
    | cons a r =>
      simp only [headB, upB, loB]
      intro h1 h2
      simp at h1 h2
      omega
/-- A valid term whose name is a variable's is that variable. -/
theorem valid_named {d : Nat} {t : Tm} (h : validT false d t = true) (hv : varB t.nm = true) : t = .mk t.nm [] := by
  obtain ⟨n, l⟩ := t
  cases d with
  | zero => simp [validT] at h
  | succ d =>
    unfold validT at h
    split at h
    · next hl =>
      have : l = [] := by simpa using hl
      subst this
      rfl
    · rw [Bool.and_eq_true, Bool.and_eq_true] at h
      have h1 := name_var hv
      simp only [Tm.nm] at h1
      rw [h1] at h
      exact absurd h.1.2 (by simp)
/-- A valid term stays one where variables become valid terms. -/
theorem valid_sub {σ : Sb} {k : Nat} (hσ : ∀ v, varB v = true → validT false k (σ v) = true) : ∀ {d : Nat} {t : Tm}, validT false d t = true → validT false (d + k) (subT σ t) = true
  | 0, t, h => by simp [validT] at h
  | d + 1, .mk n l, h => by
    cases hv : isV (.mk n l)
    · rw [sub_fun _ n l hv]
      rw [show d + 1 + k = (d + k) + 1 by omega]
      unfold validT at h ⊢
      split at h
      · next hl =>
        have : l = [] := by simpa using hl
        subst this
        exact h
      · next hl =>
        rw [if_neg (by simpa using hl)]
        rw [Bool.and_eq_true, List.all_eq_true] at h ⊢
        refine ⟨by rw [List.length_map]; exact h.1, fun x hx => ?_⟩
        obtain ⟨y, hy, rfl⟩ := List.mem_map.1 hx
        exact valid_sub hσ (h.2 y hy)
    · obtain ⟨rfl, hn⟩ := isv_nil hv
      rw [sub_var _ hn]
      exact valid_mono (by omega) (hσ n hn)
end UnuA
end Go.Proofs.YtaenalpckloikaaGreatDoor
/- The code's classes: who leads, what a join leaves, and which substitutions solve it. No conditions. -/
namespace Go.Proofs.YtaenalpckloikaaGreatDoor
open Go
namespace UnuB
open LexM TermM TermU1 UniM UniC UniG UniH UniO UniY UnmA UnmE UnuA
abbrev V (t : Tm) : Prop := validT false 4 t = true
/-- Who leads the class of a term. -/
def ldr : Cls → Tm → Tm
  | [], t => t
  | (k, x) :: D, t => if textT (ldr D t) = k then x else ldr D t
/-- How the classes grow: a leader comes below another one. -/
inductive Fo : Cls → Prop
  | nil : Fo []
  | step {D : Cls} {x y : Tm} : Fo D → V x → V y → lookK D (textT x) = none → lookK D (textT y) = none → x ≠ y → (isV x = true → isV y = true ∧ ltB x.nm y.nm = true) → Fo ((textT y, x) :: D)
theorem text_ne {x y : Tm} (hx : V x) (hy : V y) (h : x ≠ y) : textT y ≠ textT x := fun e => h ((valid_text hx hy).1 e.symm)
theorem lead_up {D : Cls} {x y : Tm} (hx : V x) (hy : V y) (nx : lookK D (textT x) = none) (ny : lookK D (textT y) = none) (hne : x ≠ y) : ∀ (n : Nat) (t l : Tm), leadP D n t = some l → leadP ((textT y, x) :: D) (n + 1) t = some (if textT l = textT y then x else l)
  | 0, _, _, h => by cases h
  | n + 1, t, l, h => by
    unfold leadP at h
    rw [leadP, lookK_cons]
    cases hl : lookK D (textT t) with
    | none =>
      rw [hl] at h
      simp only [Option.some.injEq] at h
      subst h
      by_cases e : textT y = textT t
      · rw [if_pos e, if_pos e.symm]
        simp only
        rw [leadP, lookK_cons, if_neg (text_ne hx hy hne), nx]
      · rw [if_neg e, if_neg (fun h => e h.symm)]
    | some u =>
      rw [hl] at h
      simp only at h
      have e : textT y ≠ textT t := by
        intro e
        rw [← e, ny] at hl
        cases hl
      rw [if_neg e]
      exact lead_up hx hy nx ny hne n u l h
theorem lead_mono {D : Cls} : ∀ (n m : Nat) (t l : Tm), leadP D n t = some l → leadP D (n + m) t = some l
  | 0, _, _, _, h => by cases h
  | n + 1, m, t, l, h => by
    rw [show n + 1 + m = (n + m) + 1 by omega]
    unfold leadP at h ⊢
    cases hl : lookK D (textT t) with
    | none => rw [hl] at h; exact h
    | some u => rw [hl] at h; exact lead_mono n m u l h
theorem lead_ldr {D : Cls} (h : Fo D) : ∀ t, leadP D (D.length + 1) t = some (ldr D t) := by
  induction h with
  | nil => intro t; rfl
  | step hD hx hy nx ny hne hv ih =>
    intro t
    exact lead_up hx hy nx ny hne _ t _ (ih t)
theorem lead_n {D : Cls} (h : Fo D) {n : Nat} (hn : D.length < n) (t : Tm) : leadP D n t = some (ldr D t) := by
  obtain ⟨m, rfl⟩ : ∃ m, n = D.length + 1 + m := ⟨n - (D.length + 1), by omega⟩
  exact lead_mono _ m t _ (lead_ldr h t)
theorem ldr_none {D : Cls} (h : Fo D) {t : Tm} (hl : lookK D (textT t) = none) : ldr D t = t := by
  have h1 := lead_ldr h t
  unfold leadP at h1
  rw [hl] at h1
  simpa using h1.symm
theorem ldr_top {D : Cls} (h : Fo D) : ∀ t, lookK D (textT (ldr D t)) = none := by
  induction h with
  | nil => intro t; rfl
  | @step D x y hD hx hy nx ny hne hv ih =>
    intro t
    unfold ldr
    rw [lookK_cons]
    by_cases e : textT (ldr D t) = textT y
    · rw [if_pos e]
      simp only
      rw [if_neg (text_ne hx hy hne)]
      exact nx
    · rw [if_neg e]
      simp only
      rw [if_neg (fun h => e h.symm)]
      exact ih t
theorem ldr_idem {D : Cls} (h : Fo D) (t : Tm) : ldr D (ldr D t) = ldr D t := ldr_none h (ldr_top h t)
theorem ldr_valid {D : Cls} (h : Fo D) {t : Tm} (ht : V t) : V (ldr D t) := by
  induction h with
  | nil => exact ht
  | @step D x y hD hx hy nx ny hne hv ih =>
    unfold ldr
    split
    · exact hx
    · exact ih
theorem ldr_app (E D : Cls) (t : Tm) : ldr (E ++ D) t = ldr E (ldr D t) := by
  induction E with
  | nil => rfl
  | cons e E ih =>
    obtain ⟨k, x⟩ := e
    show ldr ((k, x) :: (E ++ D)) t = _
    rw [ldr, ldr, ih]
theorem ltB_trans {a b c : ByteArray} (h1 : ltB a b = true) (h2 : ltB b c = true) : ltB a c = true := by
  rw [lt_lex] at h1 h2 ⊢
  have := (tri_lex a.data.toList b.data.toList c.data.toList).2.1 h1 (by omega)
  exact this
theorem ldr_var {D : Cls} (h : Fo D) {t : Tm} (ht : V t) : isV (ldr D t) = true → isV t = true ∧ (ldr D t = t ∨ ltB (ldr D t).nm t.nm = true) := by
  induction h with
  | nil => intro h; exact ⟨h, Or.inl rfl⟩
  | @step D x y hD hx hy nx ny hne hv ih =>
    unfold ldr
    by_cases e : textT (ldr D t) = textT y
    · rw [if_pos e]
      intro hxv
      obtain ⟨h1, h2⟩ := hv hxv
      have e' : ldr D t = y := (valid_text (ldr_valid hD ht) hy).1 e
      rw [e'] at ih
      obtain ⟨h3, h4⟩ := ih h1
      refine ⟨h3, Or.inr ?_⟩
      rcases h4 with h4 | h4
      · rw [← h4]; exact h2
      · exact ltB_trans h2 h4
    · rw [if_neg e]
      exact ih
/-- A substitution makes the terms of each class equal. -/
def Sol (σ : Sb) (D : Cls) : Prop := ∀ e ∈ D, ∀ y, V y → textT y = e.1 → subT σ y = subT σ e.2
theorem sol_nil (σ : Sb) : Sol σ [] := fun _ h => by cases h
theorem sol_cons {σ : Sb} {D : Cls} {x y : Tm} (hy : V y) : Sol σ ((textT y, x) :: D) ↔ Sol σ D ∧ subT σ y = subT σ x := by
  constructor
  · intro h
    exact ⟨fun e he => h e (List.mem_cons_of_mem _ he), h (textT y, x) (by simp) y hy rfl⟩
  · rintro ⟨h1, h2⟩ e he z hz hzt
    rcases List.mem_cons.1 he with rfl | he
    · rw [(valid_text hz hy).1 hzt]; exact h2
    · exact h1 e he z hz hzt
theorem sol_ldr {σ : Sb} {D : Cls} (h : Fo D) {t : Tm} (ht : V t) : Sol σ D → subT σ t = subT σ (ldr D t) := by
  induction h with
  | nil => intro _; rfl
  | @step D x y hD hx hy nx ny hne hv ih =>
    intro hs
    obtain ⟨h1, h2⟩ := (sol_cons hy).1 hs
    unfold ldr
    by_cases e : textT (ldr D t) = textT y
    · rw [if_pos e, ih h1, (valid_text (ldr_valid hD ht) hy).1 e, h2]
    · rw [if_neg e]; exact ih h1
/-- All that stands in the classes is among some terms. -/
def InS (S : List Tm) (D : Cls) : Prop := ∀ e ∈ D, e.2 ∈ S ∧ ∃ y ∈ S, e.1 = textT y
theorem ins_ldr {S : List Tm} {D : Cls} (h : InS S D) {t : Tm} (ht : t ∈ S) : ldr D t ∈ S := by
  induction D with
  | nil => exact ht
  | cons e D ih =>
    obtain ⟨k, x⟩ := e
    unfold ldr
    split
    · exact (h (k, x) (by simp)).1
    · exact ih fun e he => h e (List.mem_cons_of_mem _ he)
theorem look_key {α : Type} {D : List (Ky × α)} {k : Ky} (h : lookK D k = none) : k ∉ D.map (·.1) := by
  induction D with
  | nil => simp
  | cons e D ih =>
    rw [lookK_cons] at h
    split at h
    · cases h
    · next hne =>
      simp only [List.map_cons, List.mem_cons, not_or]
      exact ⟨fun e => hne e.symm, ih h⟩
theorem fo_keys {D : Cls} (h : Fo D) : (D.map (·.1)).Nodup := by
  induction h with
  | nil => exact List.nodup_nil
  | step hD hx hy nx ny hne hv ih =>
    rw [List.map_cons, List.nodup_cons]
    exact ⟨look_key ny, ih⟩
theorem nodup_len {α : Type} [DecidableEq α] : ∀ (l m : List α), l.Nodup → (∀ x ∈ l, x ∈ m) → l.length ≤ m.length
  | [], m, _, _ => Nat.zero_le _
  | a :: l, m, hn, hs => by
    rw [List.nodup_cons] at hn
    have ha := hs a (by simp)
    have h1 := nodup_len l (m.erase a) hn.2 fun x hx => by
      have hne : x ≠ a := fun e => hn.1 (e ▸ hx)
      exact (List.mem_erase_of_ne hne).2 (hs x (by simp [hx]))
    have h2 := List.length_erase_of_mem ha
    have h3 : 0 < m.length := List.length_pos_of_mem ha
    simp only [List.length_cons]
    omega
theorem fo_len {S : List Tm} {D : Cls} (h : Fo D) (hi : InS S D) : D.length ≤ S.length := by
  have h1 := nodup_len (D.map (·.1)) (S.map textT) (fo_keys h) fun k hk => by
    obtain ⟨e, he, rfl⟩ := List.mem_map.1 hk
    obtain ⟨y, hy, e2⟩ := (hi e he).2
    rw [e2]
    exact List.mem_map_of_mem hy
  simpa using h1
/-- An entry's parts have the same leaders. -/
def ClE (D : Cls) (S : List Tm) (e : Ky × Tm) : Prop := ∀ y ∈ S, textT y = e.1 → isV y = false → e.2.nm = y.nm ∧ e.2.args.map (ldr D) = y.args.map (ldr D)
theorem map_ldr_app {E D : Cls} {xs ys : List Tm} (h : xs.map (ldr D) = ys.map (ldr D)) : xs.map (ldr (E ++ D)) = ys.map (ldr (E ++ D)) := by
  have e : ∀ l : List Tm, l.map (ldr (E ++ D)) = (l.map (ldr D)).map (ldr E) := fun l => by
    rw [List.map_map]
    exact List.map_congr_left fun t _ => ldr_app E D t
  rw [e, e, h]
theorem cle_app {E D : Cls} {S : List Tm} {e : Ky × Tm} (h : ClE D S e) : ClE (E ++ D) S e := fun y hy ht hv => ⟨(h y hy ht hv).1, map_ldr_app (h y hy ht hv).2⟩
/-- What a join of two lists of terms leaves. -/
def JOk (S : List Tm) (D : Cls) (xs ys : List Tm) (D' : Cls) (r : Bool) : Prop :=
  ∃ E, D' = E ++ D ∧ Fo D' ∧ InS S D' ∧ (r = true → xs.map (ldr D') = ys.map (ldr D') ∧ (∀ e ∈ E, ClE D' S e) ∧ ∀ σ, Sol σ D' ↔ Sol σ D ∧ xs.map (subT σ) = ys.map (subT σ)) ∧
    (r = false → ∀ σ, Sol σ D → xs.map (subT σ) ≠ ys.map (subT σ))
def JAll (S : List Tm) (m n : Nat) : Prop := ∀ D a b, Fo D → InS S D → a ∈ S → b ∈ S → m ≤ n + D.length → ∃ D' r, joinP n D a b = some (D', r) ∧ JOk S D [a] [b] D' r
theorem joinA_ok {S : List Tm} {m n : Nat} (H : JAll S m n) : ∀ (xs ys : List Tm) (D : Cls), xs.length = ys.length → (∀ x ∈ xs, x ∈ S) → (∀ y ∈ ys, y ∈ S) → Fo D → InS S D → m ≤ n + D.length →
    ∃ D' r, joinA (joinP n) D xs ys = some (D', r) ∧ JOk S D xs ys D' r
  | [], [], D, _, _, _, hF, hI, _ => ⟨D, true, rfl, [], rfl, hF, hI, fun _ => ⟨rfl, fun _ h => by (cases h), fun σ => by simp⟩, fun h => by cases h⟩
  | [], _ :: _, _, hl, _, _, _, _, _ => by simp at hl
  | _ :: _, [], _, hl, _, _, _, _, _ => by simp at hl
  | x :: xs, y :: ys, D, hl, hx, hy, hF, hI, hm => by
    obtain ⟨D1, r1, e1, E1, rfl, hF1, hI1, ht1, hf1⟩ := H D x y hF hI (hx x (by simp)) (hy y (by simp)) hm
    unfold joinA
    rw [e1]
    cases r1
    · refine ⟨E1 ++ D, false, rfl, E1, rfl, hF1, hI1, fun h => (by cases h), fun _ σ hs => ?_⟩
      have := hf1 rfl σ hs
      simp only [List.map_cons, List.map_nil] at this ⊢
      intro h
      injection h with h1 _
      exact this (by rw [h1])
    · obtain ⟨D2, r2, e2, E2, rfl, hF2, hI2, ht2, hf2⟩ := joinA_ok H xs ys (E1 ++ D) (by simpa using hl) (fun z hz => hx z (by simp [hz])) (fun z hz => hy z (by simp [hz])) hF1 hI1 (by rw [List.length_append]; omega)
      obtain ⟨t1, t2, t3⟩ := ht1 rfl
      simp only [List.map_cons, List.map_nil] at t1 t3
      injection t1 with t1 _
      refine ⟨_, r2, e2, E2 ++ E1, (List.append_assoc _ _ _).symm, hF2, hI2, fun hr => ?_, fun hr σ hs => ?_⟩
      · obtain ⟨u1, u2, u3⟩ := ht2 hr
        refine ⟨?_, fun e he => ?_, fun σ => ?_⟩
        · rw [List.map_cons, List.map_cons, u1, ldr_app E2 (E1 ++ D) x, ldr_app E2 (E1 ++ D) y, t1]
        · rcases List.mem_append.1 he with h | h
          · exact u2 e h
          · exact cle_app (t2 e h)
        · rw [u3, t3, List.map_cons, List.map_cons]
          constructor
          · rintro ⟨⟨a, b⟩, c⟩
            injection b with b _
            exact ⟨a, by rw [b, c]⟩
          · rintro ⟨a, b⟩
            injection b with b c
            exact ⟨⟨a, by rw [b]⟩, c⟩
      · intro h
        rw [List.map_cons, List.map_cons] at h
        injection h with h1 h2
        exact hf2 hr σ ((t3 σ).2 ⟨hs, by rw [h1]⟩) h2
theorem isv_same {x y : Tm} (h1 : x.nm = y.nm) (h2 : x.args.length = y.args.length) : isV x = isV y := by
  unfold isV
  rw [h1]
  have : x.args.isEmpty = y.args.isEmpty := by
    cases hx : x.args <;> cases hy : y.args <;> rw [hx, hy] at h2 <;> simp at h2 <;> rfl
  rw [this]
theorem head_iff (x y : Tm) : headE x y = true ↔ x.nm = y.nm ∧ x.args.length = y.args.length := by
  unfold headE
  rw [Bool.and_eq_true, eqB_iff, decide_eq_true_iff]
theorem sub_fun' (σ : Sb) (t : Tm) (h : isV t = false) : subT σ t = .mk t.nm (t.args.map (subT σ)) := by
  obtain ⟨n, l⟩ := t
  exact sub_fun σ n l h
theorem joinB_ok {S : List Tm} (hS : ∀ x ∈ S, V x) (hc : ∀ x ∈ S, ∀ y ∈ x.args, y ∈ S) {m n : Nat} (H : JAll S m n) {D : Cls} {x y : Tm} (hF : Fo D) (hI : InS S D) (hx : x ∈ S) (hy : y ∈ S) (nx : lookK D (textT x) = none) (ny : lookK D (textT y) = none)
    (hne : x ≠ y) (hv : isV x = true → isV y = true ∧ ltB x.nm y.nm = true) (hm : m ≤ n + 1 + D.length) : ∃ D' r, joinB (joinP n) D x y = some (D', r) ∧ JOk S D [x] [y] D' r := by
  have hF1 : Fo ((textT y, x) :: D) := Fo.step hF (hS x hx) (hS y hy) nx ny hne hv
  have hI1 : InS S ((textT y, x) :: D) := by
    intro e he
    rcases List.mem_cons.1 he with rfl | he
    · exact ⟨hx, y, hy, rfl⟩
    · exact hI e he
  have lx : ldr ((textT y, x) :: D) x = x := by
    unfold ldr
    rw [ldr_none hF nx, if_neg (fun h => text_ne (hS x hx) (hS y hy) hne h.symm)]
  have ly : ldr ((textT y, x) :: D) y = x := by
    unfold ldr
    rw [ldr_none hF ny, if_pos rfl]
  unfold joinB
  by_cases hyv : isV y = true
  · rw [if_pos hyv]
    refine ⟨_, true, rfl, [(textT y, x)], rfl, hF1, hI1, fun _ => ⟨by simp [lx, ly], fun e he => ?_, fun σ => ?_⟩, fun h => by cases h⟩
    · obtain rfl := List.mem_singleton.1 he
      intro z hz hzt hzv
      rw [(valid_text (hS z hz) (hS y hy)).1 hzt, hyv] at hzv
      cases hzv
    · rw [sol_cons (hS y hy)]
      simp only [List.map_cons, List.map_nil, List.cons.injEq, and_true]
      exact ⟨fun h => ⟨h.1, h.2.symm⟩, fun h => ⟨h.1, h.2.symm⟩⟩
  · have hyf : isV y = false := by simpa using hyv
    have hxf : isV x = false := by
      cases h : isV x
      · rfl
      · exact absurd (hv h).1 hyv
    rw [if_neg hyv]
    by_cases hh : headE x y = true
    · rw [if_pos hh]
      obtain ⟨h1, h2⟩ := (head_iff x y).1 hh
      obtain ⟨D', r, e, E, rfl, hF2, hI2, ht, hf⟩ := joinA_ok H x.args y.args ((textT y, x) :: D) h2 (hc x hx) (hc y hy) hF1 hI1 (by simp only [List.length_cons]; omega)
      have key : ∀ σ, x.args.map (subT σ) = y.args.map (subT σ) ↔ subT σ x = subT σ y := by
        intro σ
        rw [sub_fun' σ x hxf, sub_fun' σ y hyf, h1]
        simp
      refine ⟨_, r, e, E ++ [(textT y, x)], by simp, hF2, hI2, fun hr => ?_, fun hr σ hs => ?_⟩
      · obtain ⟨u1, u2, u3⟩ := ht hr
        refine ⟨?_, fun z hz => ?_, fun σ => ?_⟩
        · simp only [List.map_cons, List.map_nil]
          rw [ldr_app E _ x, ldr_app E _ y, lx, ly]
        · rcases List.mem_append.1 hz with h | h
          · exact u2 z h
          · obtain rfl := List.mem_singleton.1 h
            intro q hq hqt hqv
            rw [(valid_text (hS q hq) (hS y hy)).1 hqt]
            exact ⟨h1, u1⟩
        · rw [u3, sol_cons (hS y hy), key]
          simp only [List.map_cons, List.map_nil, List.cons.injEq, and_true]
          constructor
          · rintro ⟨⟨a, _⟩, c⟩
            exact ⟨a, c⟩
          · rintro ⟨a, c⟩
            exact ⟨⟨a, c.symm⟩, c⟩
      · intro h
        simp only [List.map_cons, List.map_nil, List.cons.injEq, and_true] at h
        exact hf hr σ ((sol_cons (hS y hy)).2 ⟨hs, h.symm⟩) ((key σ).2 h)
    · rw [if_neg hh]
      refine ⟨_, false, rfl, [(textT y, x)], rfl, hF1, hI1, fun h => (by cases h), fun _ σ _ h => ?_⟩
      simp only [List.map_cons, List.map_nil, List.cons.injEq, and_true] at h
      rw [sub_fun' σ x hxf, sub_fun' σ y hyf] at h
      injection h with a b
      have b' := congrArg List.length b
      simp only [List.length_map] at b'
      exact hh ((head_iff x y).2 ⟨a, b'⟩)
theorem ledB_iff (a b : Tm) : ledB a b = true ↔ isV b = true ∧ (isV a = true → ltB a.nm b.nm = true) := by
  unfold ledB
  rw [Bool.and_eq_true, Bool.or_eq_true, Bool.not_eq_true']
  constructor
  · rintro ⟨h1, h2⟩
    refine ⟨h1, fun h => ?_⟩
    rcases h2 with h2 | h2
    · rw [h] at h2; cases h2
    · exact h2
  · rintro ⟨h1, h2⟩
    refine ⟨h1, ?_⟩
    cases h : isV a
    · exact Or.inl rfl
    · exact Or.inr (h2 h)
theorem ltB_tri {a b : ByteArray} (h1 : ltB a b = false) (h2 : a ≠ b) : ltB b a = true := by
  have hn : ¬ lexB a.data.toList b.data.toList < 0 := fun h => by rw [lt_lex.2 h] at h1; cases h1
  rw [lt_lex]
  have h3 := lex_neg a.data.toList b.data.toList
  have h4 : lexB a.data.toList b.data.toList ≠ 0 := fun h => h2 (bytes_inj ((lex_zero _ _).1 h))
  omega
theorem join_ok {S : List Tm} (hS : ∀ x ∈ S, V x) (hc : ∀ x ∈ S, ∀ y ∈ x.args, y ∈ S) : ∀ n, JAll S (2 * S.length + 2) n
  | 0 => by
    intro D a b hF hI ha hb hm
    have := fo_len hF hI
    omega
  | n + 1 => by
    intro D a b hF hI ha hb hm
    have hl := fo_len hF hI
    unfold joinP
    rw [lead_n hF (by omega) a, lead_n hF (by omega) b]
    simp only [Option.bind_some]
    have ma := ins_ldr hI ha
    have mb := ins_ldr hI hb
    have ta := ldr_top hF a
    have tb := ldr_top hF b
    have sa : ∀ {σ}, Sol σ D → subT σ a = subT σ (ldr D a) := fun h => sol_ldr hF (hS a ha) h
    have sb : ∀ {σ}, Sol σ D → subT σ b = subT σ (ldr D b) := fun h => sol_ldr hF (hS b hb) h
    -- from the leaders to the terms
    have lift : ∀ {x y : Tm} {D' : Cls} {r : Bool}, x = ldr D a → y = ldr D b → JOk S D [x] [y] D' r → JOk S D [a] [b] D' r := by
      rintro x y D' r rfl rfl ⟨E, rfl, h1, h2, h3, h4⟩
      simp only [List.map_cons, List.map_nil, List.cons.injEq, and_true] at h3 h4
      refine ⟨E, rfl, h1, h2, fun hr => ?_, fun hr σ hs => ?_⟩
      · obtain ⟨u1, u2, u3⟩ := h3 hr
        simp only [List.map_cons, List.map_nil, List.cons.injEq, and_true]
        refine ⟨?_, u2, fun σ => ?_⟩
        · rw [ldr_app, ldr_app, ldr_idem hF, ldr_idem hF] at u1
          rw [ldr_app, ldr_app]
          exact u1
        · rw [u3]
          constructor
          · rintro ⟨h, e⟩; exact ⟨h, by rw [sa h, sb h, e]⟩
          · rintro ⟨h, e⟩; exact ⟨h, by rw [← sa h, ← sb h, e]⟩
      · simp only [List.map_cons, List.map_nil, ne_eq, List.cons.injEq, and_true]
        intro e
        have := h4 hr σ hs
        simp only [ne_eq, List.cons.injEq, and_true] at this
        exact this (by rw [← sa hs, ← sb hs, e])
    have turn : ∀ {x y : Tm} {D' : Cls} {r : Bool}, JOk S D [x] [y] D' r → JOk S D [y] [x] D' r := by
      rintro x y D' r ⟨E, rfl, h1, h2, h3, h4⟩
      exact ⟨E, rfl, h1, h2, fun hr => ⟨(h3 hr).1.symm, (h3 hr).2.1, fun σ => by rw [(h3 hr).2.2]; exact ⟨fun h => ⟨h.1, h.2.symm⟩, fun h => ⟨h.1, h.2.symm⟩⟩⟩, fun hr σ hs e => h4 hr σ hs e.symm⟩
    by_cases hz : cmpT (ldr D a) (ldr D b) = 0
    · rw [if_pos hz]
      have e := (cmp_zero _ _).1 hz
      refine ⟨D, true, rfl, [], rfl, hF, hI, fun _ => ⟨by simp [e], fun _ h => by (cases h), fun σ => ?_⟩, fun h => by cases h⟩
      simp only [List.map_cons, List.map_nil, List.cons.injEq, and_true]
      exact ⟨fun h => ⟨h, by rw [sa h, sb h, e]⟩, fun h => h.1⟩
    · rw [if_neg hz]
      have hne : ldr D a ≠ ldr D b := fun e => hz ((cmp_zero _ _).2 e)
      have IH := join_ok hS hc n
      by_cases hL : ledB (ldr D b) (ldr D a) = true
      · rw [if_pos hL]
        obtain ⟨h1, h2⟩ := (ledB_iff _ _).1 hL
        obtain ⟨D', r, e, hj⟩ := joinB_ok hS hc IH hF hI mb ma tb ta (fun e => hne e.symm) (fun h => ⟨h1, h2 h⟩) (by omega)
        exact ⟨D', r, e, lift rfl rfl (turn hj)⟩
      · rw [if_neg hL]
        obtain ⟨D', r, e, hj⟩ := joinB_ok hS hc IH hF hI ma mb ta tb hne (fun h => by
          -- the first leads although it is a variable: so is the second one, which is greater
          have hb : isV (ldr D b) = true ∧ ltB (ldr D b).nm (ldr D a).nm = false := by
            cases hbv : isV (ldr D b)
            · exact absurd ((ledB_iff _ _).2 ⟨h, fun h' => by rw [hbv] at h'; cases h'⟩) hL
            · cases hlt : ltB (ldr D b).nm (ldr D a).nm
              · exact ⟨rfl, rfl⟩
              · exact absurd ((ledB_iff _ _).2 ⟨h, fun _ => hlt⟩) hL
          refine ⟨hb.1, ltB_tri hb.2 fun e => hne ?_⟩
          rw [(isv_args h).1, (isv_args hb.1).1, e]) (by omega)
        exact ⟨D', r, e, lift rfl rfl hj⟩
end UnuB
end Go.Proofs.YtaenalpckloikaaGreatDoor
/- The reference's Compose as a plain function. No conditions. -/
namespace Go.Proofs.YtaenalpckloikaaGreatDoor
open Go Go.RowKit
namespace UnjA
open LexM TermM TermI Kit TermN TermU UniK UniM UniA UniC UniD UniE UniG UniH UniJ UniO UniR
/-- One variable of a composition. -/
def cstep (s t out : List Bd) (v : ByteArray) : List Bd :=
  if (lookS out v).isNone && !(cmpT (appT t (appT s (.mk v []))) (.mk v []) == 0) then putS (v, appT t (appT s (.mk v []))) out else out
def compF (s t : List Bd) (k : Nat) : List Bd := (((s ++ t).map (·.1)).take k).foldl (cstep s t) []
theorem comp_next (s t : List Bd) (k : Nat) (v : ByteArray) (h : ((s ++ t).map (·.1))[k]? = some v) : compF s t (k + 1) = cstep s t (compF s t k) v := by
  unfold compF
  have : ((s ++ t).map (·.1)).take (k + 1) = ((s ++ t).map (·.1)).take k ++ [v] := take_get _ k v h
  rw [this, List.foldl_append]
  rfl
theorem step_len (s t out : List Bd) (v : ByteArray) : (cstep s t out v).length ≤ out.length + 1 := by
  unfold cstep
  split
  · rw [put_len]; exact Nat.le_refl _
  · omega
theorem comp_len (s t : List Bd) : ∀ k, k ≤ (s ++ t).length → (compF s t k).length ≤ k
  | 0, _ => by simp [compF]
  | k + 1, h => by
    have hk : k < ((s ++ t).map (·.1)).length := by rw [List.length_map]; exact h
    rw [comp_next s t k _ (List.getElem?_eq_getElem hk)]
    have := step_len s t (compF s t k) (((s ++ t).map (·.1))[k])
    have := comp_len s t k (by omega)
    omega
theorem app_leaf (s : List Bd) (v : ByteArray) : appT s (.mk v []) = (lookS s v).getD (.mk v []) := by simp [appT]
theorem leaf_size {s : List Bd} (h : ∀ y ∈ s, sizeT y.2 ≤ 1000000) (v : ByteArray) : sizeT (appT s (.mk v [])) ≤ 1000000 := by
  rw [app_leaf]
  cases hl : lookS s v with
  | none => simp [sizeT, sizeL]
  | some u =>
    have : ∃ y ∈ s, y.2 = u := by
      unfold lookS at hl
      cases hf : s.find? (fun b => eqB b.1 v) with
      | none => rw [hf] at hl; cases hl
      | some y => rw [hf] at hl; exact ⟨y, List.mem_of_find?_eq_some hf, by simpa using hl⟩
    obtain ⟨y, hy, rfl⟩ := this
    exact h y hy
/-- What one round does, from the variable on. -/
def names (s t : List Bd) : List ByteArray := (s ++ t).map (·.1)
theorem names_left {s t : List Bd} {k : Nat} {x : Bd} (h : s[k]? = some x) : (names s t)[k]? = some x.1 := by
  unfold names
  rw [List.getElem?_map, List.getElem?_append_left (List.getElem?_eq_some_iff.1 h).1, h]
  rfl
theorem names_right {s t : List Bd} {j : Nat} {x : Bd} (h : t[j]? = some x) : (names s t)[s.length + j]? = some x.1 := by
  unfold names
  rw [List.getElem?_map, List.getElem?_append_right (by omega), show s.length + j - s.length = j by omega, h]
  rfl
end UnjA
end Go.Proofs.YtaenalpckloikaaGreatDoor
/- The variables that two substitutions bind, ascending, each once; the code's composition as plain data equals the reference's. No conditions. -/
namespace Go.Proofs.YtaenalpckloikaaGreatDoor
open Go Go.RowKit
namespace UnnC
open LexM TermM TermI Kit TermN TermU UniK UniM UniA UniC UniD UniE UniG UniH UniJ UniO UniP UniR UnjA UnmE
theorem lt_list : ∀ x y : List UInt8, x < y ↔ lexB x y < 0
  | [], [] => by simp [lexB]
  | [], b :: y => by simp [lexB]
  | a :: x, [] => by simp [lexB]
  | a :: x, b :: y => by
    rw [List.cons_lt_cons_iff, lt_list x y, show lexB (a :: x) (b :: y) = thn (sg a.toNat b.toNat) (lexB x y) by rw [lexB]]
    unfold thn sg
    rw [UInt8.lt_iff_toNat_lt, ← UInt8.toNat_inj]
    by_cases h1 : a.toNat < b.toNat
    · simp [h1]
    · by_cases h2 : b.toNat < a.toNat
      · simp [h1, h2]
        omega
      · have h3 : a.toNat = b.toNat := by omega
        simp [h3]
theorem le_list (x y : List UInt8) : x ≤ y ↔ lexB x y ≤ 0 := by
  have h : x ≤ y ↔ ¬ (y < x) := Iff.rfl
  rw [h, lt_list, lex_neg x y]
  omega
theorem lex_trans {x y z : List UInt8} (h1 : lexB x y ≤ 0) (h2 : lexB y z ≤ 0) : lexB x z ≤ 0 := (tri_lex x y z).1 h1 h2
theorem sorted (ls : List (List UInt8)) : (ls.mergeSort fun x y => decide (x ≤ y)).Pairwise fun x y => lexB x y ≤ 0 := by
  have h := List.pairwise_mergeSort (le := fun x y : List UInt8 => decide (x ≤ y)) (fun a b c h1 h2 => by
    simp only [decide_eq_true_eq, le_list] at h1 h2 ⊢
    exact lex_trans h1 h2) (fun a b => by
    simp only [Bool.or_eq_true, decide_eq_true_eq, le_list]
    rw [lex_neg a b]
    omega) ls
  exact h.imp fun h => by simpa [le_list] using h
theorem compact_upto (d : Array (List UInt8)) (hs : ∀ i j, i < j → j < d.size → lexB d[i]! d[j]! ≤ 0) : ∀ m, m ≤ d.size →
    (∀ x ∈ Lib.compactUpTo d m, ∃ j, j < m ∧ d[j]! = x) ∧ (∀ j, j < m → d[j]! ∈ Lib.compactUpTo d m) ∧ (Lib.compactUpTo d m).Pairwise fun x y => lexB x y < 0
  | 0, _ => ⟨fun x hx => by simp [Lib.compactUpTo] at hx, fun j hj => by omega, by simp [Lib.compactUpTo]⟩
  | m + 1, hm => by
    obtain ⟨h1, h2, h3⟩ := compact_upto d hs m (by omega)
    rw [Lib.compactUpTo_succ]
    by_cases hk : Lib.keeps d m = true
    · rw [if_pos hk]
      refine ⟨fun x hx => ?_, fun j hj => ?_, ?_⟩
      · rcases List.mem_append.1 hx with hx | hx
        · obtain ⟨j, a, b⟩ := h1 x hx; exact ⟨j, by omega, b⟩
        · obtain rfl := List.mem_singleton.1 hx; exact ⟨m, by omega, rfl⟩
      · by_cases e : j = m
        · subst e; simp
        · exact List.mem_append_left _ (h2 j (by omega))
      · refine List.pairwise_append.2 ⟨h3, by simp, fun a ha b hb => ?_⟩
        obtain rfl := List.mem_singleton.1 hb
        obtain ⟨j, hj, rfl⟩ := h1 a ha
        have hm0 : m ≠ 0 := by omega
        have hne : d[m]! ≠ d[m - 1]! := by
          unfold Lib.keeps at hk
          rcases of_decide_eq_true hk with h | h
          · exact absurd h hm0
          · exact h
        have a1 : lexB d[m - 1]! d[m]! ≤ 0 := hs (m - 1) m (by omega) (by omega)
        have a2 : lexB d[m - 1]! d[m]! ≠ 0 := fun h => hne ((lex_zero _ _).1 h).symm
        by_cases e : j = m - 1
        · subst e; omega
        · exact (tri_lex d[j]! d[m - 1]! d[m]!).2.2.1 (hs j (m - 1) (by omega) (by omega)) (by omega)
    · rw [if_neg hk, List.append_nil]
      refine ⟨fun x hx => ?_, fun j hj => ?_, h3⟩
      · obtain ⟨j, a, b⟩ := h1 x hx; exact ⟨j, by omega, b⟩
      · by_cases e : j = m
        · subst e
          unfold Lib.keeps at hk
          have hk' : ¬ (j = 0 ∨ d[j]! ≠ d[j - 1]!) := fun h => hk (decide_eq_true h)
          have h0 : j ≠ 0 := fun h => hk' (Or.inl h)
          have h9 : d[j]! = d[j - 1]! := Decidable.not_not.1 (fun h => hk' (Or.inr h))
          rw [h9]
          exact h2 (j - 1) (by omega)
        · exact h2 j (by omega)
/-- The variables, ascending, each once. -/
def bvars (s t : List Bd) : List ByteArray := bytesOf (Lib.compact ((lists (names s t)).mergeSort fun x y => decide (x ≤ y)))
theorem compact_srt (ls : List (List UInt8)) (hs : ls.Pairwise fun x y => lexB x y ≤ 0) : (∀ x, x ∈ Lib.compact ls ↔ x ∈ ls) ∧ (Lib.compact ls).Pairwise fun x y => lexB x y < 0 := by
  have hg : ∀ i, i < ls.length → ls.toArray[i]! = ls[i]! := fun i hi => by rw [getElem!_pos _ i (by simpa using hi), getElem!_pos _ i hi]; simp
  obtain ⟨h1, h2, h3⟩ := compact_upto ls.toArray (fun i j hij hj => by
    have hj' : j < ls.length := by simpa using hj
    rw [hg i (by omega), hg j hj', getElem!_pos _ i (by omega), getElem!_pos _ j hj']
    exact List.pairwise_iff_getElem.1 hs i j (by omega) hj' hij) ls.length (by simp)
  refine ⟨fun x => ⟨fun h => ?_, fun h => ?_⟩, h3⟩
  · obtain ⟨j, hj, rfl⟩ := h1 x h
    rw [hg j hj, getElem!_pos _ j hj]
    exact List.getElem_mem hj
  · obtain ⟨j, hj, rfl⟩ := List.mem_iff_getElem.1 h
    have := h2 j hj
    rwa [hg j hj, getElem!_pos _ j hj] at this
theorem bvars_mem (s t : List Bd) (v : ByteArray) : v ∈ bvars s t ↔ v ∈ names s t := by
  unfold bvars bytesOf lists
  rw [List.mem_map]
  constructor
  · rintro ⟨l, hl, rfl⟩
    have := ((compact_srt _ (sorted _)).1 l).1 hl
    rw [List.mem_mergeSort, List.mem_map] at this
    obtain ⟨x, hx, rfl⟩ := this
    exact hx
  · intro h
    refine ⟨v.data.toList, ((compact_srt _ (sorted _)).1 _).2 ?_, rfl⟩
    rw [List.mem_mergeSort]
    exact List.mem_map.2 ⟨v, h, rfl⟩
theorem bvars_srt (s t : List Bd) : (bvars s t).Pairwise fun x y => lexB x.data.toList y.data.toList < 0 := by
  unfold bvars bytesOf
  rw [List.pairwise_map]
  exact (compact_srt _ (sorted _)).2
/-- What becomes of a variable. -/
def img (s t : List Bd) (v : ByteArray) : Tm := appT t (appT s (.mk v []))
def keepsV (s t : List Bd) (v : ByteArray) : Bool := !(cmpT (img s t v) (.mk v []) == 0)
/-- The code's composition. -/
def codeC (s t : List Bd) : List ByteArray → List Bd
  | [] => []
  | v :: l => if keepsV s t v = true then (v, img s t v) :: codeC s t l else codeC s t l
theorem code_mem (s t : List Bd) : ∀ l (x : Bd), x ∈ codeC s t l ↔ x.1 ∈ l ∧ keepsV s t x.1 = true ∧ x.2 = img s t x.1
  | [], x => by simp [codeC]
  | v :: l, x => by
    unfold codeC
    by_cases h : keepsV s t v = true
    · rw [if_pos h, List.mem_cons, code_mem s t l x, List.mem_cons]
      constructor
      · rintro (rfl | ⟨a, b⟩)
        · exact ⟨Or.inl rfl, h, rfl⟩
        · exact ⟨Or.inr a, b⟩
      · rintro ⟨a | a, b, c⟩
        · left
          obtain ⟨x1, x2⟩ := x
          dsimp only at a b c
          subst a c
          rfl
        · exact Or.inr ⟨a, b, c⟩
    · rw [if_neg h, code_mem s t l x, List.mem_cons]
      constructor
      · rintro ⟨a, b⟩; exact ⟨Or.inr a, b⟩
      · rintro ⟨a | a, b, c⟩
        · rw [a] at b; exact absurd b h
        · exact ⟨a, b, c⟩
theorem code_srt (s t : List Bd) : ∀ l : List ByteArray, l.Pairwise (fun x y => lexB x.data.toList y.data.toList < 0) → Srt (codeC s t l)
  | [], _ => fun i j x y _ hx => by simp [codeC] at hx
  | v :: l, h => by
    have h1 := List.pairwise_cons.1 h
    unfold codeC
    by_cases hk : keepsV s t v = true
    · rw [if_pos hk]
      refine srt_cons (code_srt s t l h1.2) fun y hy => ?_
      exact h1.1 _ ((code_mem s t l y).1 hy).1
    · rw [if_neg hk]
      exact code_srt s t l h1.2
theorem look_mem {s : List Bd} {v : ByteArray} {u : Tm} (h : lookS s v = some u) : (v, u) ∈ s := by
  unfold lookS at h
  cases hf : s.find? (fun b => eqB b.1 v) with
  | none => rw [hf] at h; cases h
  | some y =>
    rw [hf] at h
    have h1 := List.mem_of_find?_eq_some hf
    have h2 := List.find?_some hf
    rw [eqB_iff] at h2
    obtain ⟨y1, y2⟩ := y
    dsimp only at h2
    subst h2
    have : y2 = u := by simpa using h
    subst this
    exact h1
theorem look_not_mem {s : List Bd} {v : ByteArray} (h : lookS s v = none) : ∀ x ∈ s, x.1 ≠ v := by
  intro x hx e
  unfold lookS at h
  rw [Option.map_eq_none_iff, List.find?_eq_none] at h
  exact h x hx (by rw [eqB_iff]; exact e)
theorem comp_spec (s t : List Bd) : ∀ k, k ≤ (names s t).length → Srt (compF s t k) ∧ ∀ x : Bd, x ∈ compF s t k ↔ x.1 ∈ (names s t).take k ∧ keepsV s t x.1 = true ∧ x.2 = img s t x.1
  | 0, _ => ⟨fun i j x y _ hx => by simp [compF] at hx, fun x => by simp [compF]⟩
  | k + 1, h => by
    obtain ⟨h1, h2⟩ := comp_spec s t k (by omega)
    have hk : k < (names s t).length := by omega
    have hv : (names s t)[k]? = some (names s t)[k] := List.getElem?_eq_getElem hk
    generalize (names s t)[k] = v at hv
    have e1 : (names s t).take (k + 1) = (names s t).take k ++ [v] := take_get _ k v hv
    rw [comp_next s t k v hv]
    unfold cstep
    have hkv : keepsV s t v = !(cmpT (appT t (appT s (.mk v []))) (.mk v []) == 0) := rfl
    rw [← hkv]
    have key : ∀ x : Bd, (x.1 ∈ (names s t).take (k + 1) ∧ keepsV s t x.1 = true ∧ x.2 = img s t x.1) ↔ ((x.1 = v ∧ keepsV s t v = true ∧ x.2 = img s t v) ∨ x ∈ compF s t k) := by
      intro x
      rw [e1, List.mem_append, List.mem_singleton, h2]
      constructor
      · rintro ⟨a | a, b, c⟩
        · exact Or.inr ⟨a, b, c⟩
        · exact Or.inl ⟨a, by rw [← a]; exact b, by rw [← a]; exact c⟩
      · rintro (⟨a, b, c⟩ | ⟨a, b, c⟩)
        · exact ⟨Or.inr a, by rw [a]; exact b, by rw [a]; exact c⟩
        · exact ⟨Or.inl a, b, c⟩
    by_cases hc : ((lookS (compF s t k) v).isNone && keepsV s t v) = true
    · rw [if_pos hc]
      rw [Bool.and_eq_true] at hc
      have hn : lookS (compF s t k) v = none := by
        cases hl : lookS (compF s t k) v with
        | none => rfl
        | some u => rw [hl] at hc; simp at hc
      refine ⟨put_srt v _ _ h1 hn, fun x => ?_⟩
      rw [put_mem, key]
      constructor
      · rintro (rfl | a)
        · exact Or.inl ⟨rfl, hc.2, rfl⟩
        · exact Or.inr a
      · rintro (⟨a, _, c⟩ | a)
        · left
          obtain ⟨x1, x2⟩ := x
          dsimp only at a c
          rw [a, c]
          rfl
        · exact Or.inr a
    · rw [if_neg hc]
      refine ⟨h1, fun x => ?_⟩
      rw [key]
      constructor
      · intro a; exact Or.inr a
      · rintro (⟨a, b, c⟩ | a)
        · cases hl : lookS (compF s t k) v with
          | none => rw [hl, b] at hc; simp at hc
          | some u =>
            have hm := look_mem hl
            have hu := ((h2 (v, u)).1 hm).2.2
            obtain ⟨x1, x2⟩ := x
            dsimp only at a c hu
            rw [a, c, ← hu]
            exact hm
        · exact a
/-- Two ascending lists with the same bindings are equal. -/
theorem srt_eq : ∀ (a b : List Bd), Srt a → Srt b → (∀ x, x ∈ a ↔ x ∈ b) → a = b
  | [], [], _, _, _ => rfl
  | [], y :: b, _, _, h => by have := (h y).2 (by simp); simp at this
  | x :: a, [], _, _, h => by have := (h x).1 (by simp); simp at this
  | x :: a, y :: b, ha, hb, h => by
    have irr : ∀ z : List UInt8, ¬ lexB z z < 0 := fun z h => by have := (lex_zero z z).2 rfl; omega
    have hxy : x = y := by
      rcases List.mem_cons.1 ((h x).1 (by simp)) with e | e
      · exact e
      · rcases List.mem_cons.1 ((h y).2 (by simp)) with e' | e'
        · exact e'.symm
        · have a1 := srt_head hb e
          have a2 := srt_head ha e'
          have := lex_neg y.1.data.toList x.1.data.toList
          omega
    subst hxy
    congr 1
    refine srt_eq a b (srt_tail ha) (srt_tail hb) fun z => ⟨fun hz => ?_, fun hz => ?_⟩
    · rcases List.mem_cons.1 ((h z).1 (List.mem_cons_of_mem _ hz)) with e | e
      · subst e; exact absurd (srt_head ha hz) (irr _)
      · exact e
    · rcases List.mem_cons.1 ((h z).2 (List.mem_cons_of_mem _ hz)) with e | e
      · subst e; exact absurd (srt_head hb hz) (irr _)
      · exact e
/-- The code's composition is the reference's. -/
theorem comp_eq (s t : List Bd) : codeC s t (bvars s t) = compF s t (names s t).length := by
  obtain ⟨h1, h2⟩ := comp_spec s t (names s t).length (Nat.le_refl _)
  refine srt_eq _ _ (code_srt s t _ (bvars_srt s t)) h1 fun x => ?_
  rw [code_mem, h2, List.take_length, bvars_mem]
end UnnC
end Go.Proofs.YtaenalpckloikaaGreatDoor
/- What the code's Unify answers, as plain data: the one unifier that is most general, idempotent and binds variables to lesser ones, or none. No conditions. -/
namespace Go.Proofs.YtaenalpckloikaaGreatDoor
open Go
namespace UnuC
open LexM TermM TermU1 TermE UniM UniA UniC UniG UniH UniO UniY UnmA UnmE UnnC UnuA UnuB
mutual
/-- The parts of a term, itself among them. -/
def subs : Tm → List Tm
  | .mk n l => .mk n l :: subsL l
def subsL : List Tm → List Tm
  | [] => []
  | t :: l => subs t ++ subsL l
end
theorem subsL_mem {y : Tm} : ∀ {l : List Tm}, y ∈ subsL l ↔ ∃ x ∈ l, y ∈ subs x
  | [] => by simp [subsL]
  | t :: l => by simp [subsL, subsL_mem (l := l)]
theorem subs_self (t : Tm) : t ∈ subs t := by
  obtain ⟨n, l⟩ := t
  simp [subs]
theorem subs_len (t : Tm) : (subs t).length = sizeT t := by
  induction t using Tm.ind with
  | h n l ih =>
    have hL : (subsL l).length = sizeL l := by
      induction l with
      | nil => rfl
      | cons a r ihr => rw [subsL, List.length_append, ih a (by simp), ihr fun x hx => ih x (by simp [hx]), sizeL]
    rw [subs, List.length_cons, hL, sizeT]
theorem subs_closed (t : Tm) : ∀ x ∈ subs t, ∀ y ∈ x.args, y ∈ subs t := by
  induction t using Tm.ind with
  | h n l ih =>
    intro x hx y hy
    rw [subs] at hx ⊢
    refine List.mem_cons_of_mem _ (subsL_mem.2 ?_)
    rcases List.mem_cons.1 hx with rfl | hx
    · exact ⟨y, hy, subs_self y⟩
    · obtain ⟨z, hz, hxz⟩ := subsL_mem.1 hx
      exact ⟨z, hz, ih z hz x hxz y hy⟩
theorem subs_valid {d : Nat} (t : Tm) : validT false d t = true → ∀ x ∈ subs t, validT false d x = true := by
  induction t using Tm.ind with
  | h n l ih =>
    intro h x hx
    rw [subs] at hx
    rcases List.mem_cons.1 hx with rfl | hx
    · exact h
    · obtain ⟨z, hz, hxz⟩ := subsL_mem.1 hx
      exact ih z hz (valid_arg h hz) x hxz
theorem subs_leaf {v : ByteArray} (t : Tm) : v ∈ leavesT t → .mk v [] ∈ subs t := by
  induction t using Tm.ind with
  | h n l ih =>
    intro h
    rw [subs]
    cases l with
    | nil =>
      have : v = n := by simpa [leavesT] using h
      rw [this]
      exact List.mem_cons_self
    | cons a r =>
      rw [leaves_fun n (by simp)] at h
      obtain ⟨x, hx, hv⟩ := leaves_mem.1 h
      exact List.mem_cons_of_mem _ (subsL_mem.2 ⟨x, hx, ih x hx hv⟩)
theorem subs_var {x : Tm} (t : Tm) : x ∈ subs t → isV x = true → x.nm ∈ leavesT t := by
  induction t using Tm.ind with
  | h n l ih =>
    intro hx hv
    rw [subs] at hx
    rcases List.mem_cons.1 hx with rfl | hx
    · obtain ⟨rfl, _⟩ := isv_nil hv
      simp [leavesT, Tm.nm]
    · obtain ⟨z, hz, hxz⟩ := subsL_mem.1 hx
      exact leaf_arg hz (ih z hz hxz hv)
/-! ### What a part becomes -/
def res (D : Cls) : Nat → Tm → Tm
  | 0, t => .mk (ldr D t).nm []
  | d + 1, t => .mk (ldr D t).nm ((ldr D t).args.map (res D d))
theorem mapO_all {α β : Type} {f : α → Option β} {g : α → β} : ∀ {l : List α}, (∀ x ∈ l, f x = some (g x)) → mapO f l = some (l.map g)
  | [], _ => rfl
  | x :: l, h => by
    unfold mapO
    rw [h x (by simp), mapO_all (l := l) fun y hy => h y (by simp [hy])]
    rfl
theorem resP_eq {D : Cls} (h : Fo D) {n : Nat} (hn : D.length < n) : ∀ d t, resP D n d t = some (res D d t)
  | 0, t => by unfold resP; rw [lead_n h hn t]; rfl
  | d + 1, t => by
    unfold resP
    rw [lead_n h hn t]
    simp only [Option.bind_some]
    rw [mapO_all (g := res D d) fun x _ => resP_eq h hn d x]
    rfl
theorem res_same {D : Cls} {x y : Tm} (h : ldr D x = ldr D y) (d : Nat) : res D d x = res D d y := by cases d <;> simp [res, h]
theorem res_map {D : Cls} (d : Nat) : ∀ {xs ys : List Tm}, xs.map (ldr D) = ys.map (ldr D) → xs.map (res D d) = ys.map (res D d)
  | [], [], _ => rfl
  | [], _ :: _, h => by simp at h
  | _ :: _, [], h => by simp at h
  | x :: xs, y :: ys, h => by
    rw [List.map_cons, List.map_cons] at h
    injection h with h1 h2
    rw [List.map_cons, List.map_cons, res_same h1 d, res_map d h2]
theorem map_arg {f : Tm → Tm} {n : ByteArray} {l : List Tm} {d : Nat} (h : depthT (.mk n (l.map f)) ≤ d + 1) {x : Tm} (hx : x ∈ l) : depthT (f x) ≤ d := by
  have := depth_arg (n := n) (List.mem_map_of_mem (f := f) hx)
  omega
theorem res_stable {D : Cls} : ∀ d t, depthT (res D d t) ≤ d → res D (d + 1) t = res D d t
  | 0, t, h => by have := depth_pos (res D 0 t); omega
  | d + 1, t, h => by
    rw [res] at h
    rw [res, res]
    congr 1
    exact List.map_congr_left fun x hx => res_stable d x (map_arg h hx)
theorem res_later {D : Cls} {d t} (h : depthT (res D d t) ≤ d) : ∀ e, d ≤ e → res D e t = res D d t := by
  intro e he
  obtain ⟨k, rfl⟩ : ∃ k, e = d + k := ⟨e - d, by omega⟩
  clear he
  induction k with
  | zero => rfl
  | succ k ih =>
    rw [show d + (k + 1) = (d + k) + 1 by omega, res_stable (d + k) t (by rw [ih]; omega), ih]
/-- Classes of some valid terms with all their parts. -/
def Wl (S : List Tm) (D : Cls) : Prop := (∀ x ∈ S, V x) ∧ (∀ x ∈ S, ∀ y ∈ x.args, y ∈ S) ∧ Fo D ∧ InS S D
theorem res_low {S : List Tm} {D : Cls} (W : Wl S D) {σ : Sb} (hs : Sol σ D) : ∀ d t, t ∈ S → depthT (res D d t) ≤ depthT (subT σ t)
  | 0, t, ht => by
    have := depth_pos (subT σ t)
    simpa [res, depthT, depthL] using this
  | d + 1, t, ht => by
    obtain ⟨hS, hc, hF, hI⟩ := W
    have hl := ins_ldr hI ht
    rw [sol_ldr hF (hS t ht) hs, res]
    cases hv : isV (ldr D t)
    · rw [sub_fun' σ _ hv]
      have : depthL ((ldr D t).args.map (res D d)) ≤ depthL ((ldr D t).args.map (subT σ)) := depthL_le fun z hz => by
        obtain ⟨x, hx, rfl⟩ := List.mem_map.1 hz
        exact Nat.le_trans (res_low ⟨hS, hc, hF, hI⟩ hs d x (hc _ hl x hx)) (depthL_mem (List.mem_map_of_mem hx))
      simp only [depthT]
      omega
    · have ha : (ldr D t).args = [] := by rw [(isv_args hv).1]; rfl
      rw [ha]
      have := depth_pos (subT σ (ldr D t))
      simpa [depthT, depthL] using this
theorem res_exact {S : List Tm} {D : Cls} (W : Wl S D) {σ : Sb} (hs : Sol σ D) : ∀ d t, t ∈ S → depthT (res D d t) ≤ d → subT σ (res D d t) = subT σ t
  | 0, t, _, h => by have := depth_pos (res D 0 t); omega
  | d + 1, t, ht, h => by
    obtain ⟨hS, hc, hF, hI⟩ := W
    have hl := ins_ldr hI ht
    rw [sol_ldr hF (hS t ht) hs]
    rw [res] at h ⊢
    cases hv : isV (ldr D t)
    · have hv' : isV (.mk (ldr D t).nm ((ldr D t).args.map (res D d))) = false := by
        rw [← hv]
        exact isv_same rfl (by simp [Tm.args])
      rw [sub_fun' σ _ hv', sub_fun' σ _ hv]
      simp only [Tm.nm, Tm.args, List.map_map]
      congr 1
      exact List.map_congr_left fun x hx => res_exact ⟨hS, hc, hF, hI⟩ hs d x (hc _ hl x hx) (map_arg h hx)
    · have ha : (ldr D t).args = [] := by rw [(isv_args hv).1]; rfl
      rw [ha, List.map_nil, ← (isv_args hv).1]
theorem res_valid {S : List Tm} {D : Cls} (W : Wl S D) : ∀ d t, t ∈ S → depthT (res D d t) ≤ d → validT false d (res D d t) = true
  | 0, t, _, h => by have := depth_pos (res D 0 t); omega
  | d + 1, t, ht, h => by
    obtain ⟨hS, hc, hF, hI⟩ := W
    have hl := ins_ldr hI ht
    have hv := hS _ hl
    have hcl := hc _ hl
    rw [res] at h ⊢
    generalize ldr D t = l at *
    obtain ⟨n, al⟩ := l
    simp only [Tm.nm, Tm.args] at *
    unfold V validT at hv
    unfold validT
    split at hv
    · next he =>
      have : al = [] := by simpa using he
      subst this
      exact hv
    · next he =>
      rw [if_neg (by simpa using he)]
      rw [Bool.and_eq_true, List.all_eq_true] at hv ⊢
      refine ⟨by rw [List.length_map]; exact hv.1, fun z hz => ?_⟩
      obtain ⟨x, hx, rfl⟩ := List.mem_map.1 hz
      exact res_valid ⟨hS, hc, hF, hI⟩ d x (hcl x hx) (map_arg h hx)
/-- A part has the head of its leader, and their arguments the same leaders. -/
theorem head_ldr {S : List Tm} {D : Cls} (hI : InS S D) (hC : ∀ e ∈ D, ClE D S e) {t : Tm} (ht : t ∈ S) (hv : isV t = false) : (ldr D t).nm = t.nm ∧ (ldr D t).args.map (ldr D) = t.args.map (ldr D) := by
  have gen : ∀ D0 E : Cls, E ++ D0 = D → (ldr D0 t).nm = t.nm ∧ (ldr D0 t).args.map (ldr D) = t.args.map (ldr D) := by
    intro D0
    induction D0 with
    | nil => intro E _; exact ⟨rfl, rfl⟩
    | cons e D0 ih =>
      intro E hE
      obtain ⟨k, x⟩ := e
      obtain ⟨h1, h2⟩ := ih (E ++ [(k, x)]) (by rw [List.append_assoc]; exact hE)
      unfold ldr
      by_cases he : textT (ldr D0 t) = k
      · rw [if_pos he]
        have hl : ldr D0 t ∈ S := ins_ldr (fun e he => hI e (by rw [← hE]; simp [he])) ht
        have hlv : isV (ldr D0 t) = false := by
          rw [← hv]
          exact isv_same h1 (by have := congrArg List.length h2; simpa using this)
        obtain ⟨h3, h4⟩ := hC (k, x) (by rw [← hE]; simp) _ hl he hlv
        exact ⟨h3.trans h1, h4.trans h2⟩
      · rw [if_neg he]
        exact ⟨h1, h2⟩
  exact gen D [] rfl
/-! ### The unifier -/
def sol (D : Cls) : List ByteArray → List Bd
  | [] => []
  | v :: l => if eqB (res D 4 (.mk v [])).nm v = true then sol D l else (v, res D 4 (.mk v [])) :: sol D l
theorem solP_eq {D : Cls} (h : Fo D) {n : Nat} (hn : D.length < n) : ∀ vs, solP D n vs = some (sol D vs)
  | [] => rfl
  | v :: l => by
    unfold solP sol
    rw [resP_eq h hn, solP_eq h hn l]
    simp only [Option.bind_some, Option.map_some]
theorem sol_mem {D : Cls} {x : Bd} : ∀ {vs}, x ∈ sol D vs ↔ x.1 ∈ vs ∧ (res D 4 (.mk x.1 [])).nm ≠ x.1 ∧ x.2 = res D 4 (.mk x.1 [])
  | [] => by simp [sol]
  | v :: l => by
    unfold sol
    by_cases h : eqB (res D 4 (.mk v [])).nm v = true
    · rw [if_pos h, sol_mem]
      rw [eqB_iff] at h
      constructor
      · rintro ⟨a, b, c⟩; exact ⟨by simp [a], b, c⟩
      · rintro ⟨a, b, c⟩
        rcases List.mem_cons.1 a with e | e
        · rw [e] at b; exact absurd h b
        · exact ⟨e, b, c⟩
    · rw [if_neg h, List.mem_cons, sol_mem]
      rw [eqB_iff] at h
      constructor
      · rintro (rfl | ⟨a, b, c⟩)
        · exact ⟨by simp, h, rfl⟩
        · exact ⟨by simp [a], b, c⟩
      · rintro ⟨a, b, c⟩
        rcases List.mem_cons.1 a with e | e
        · left
          obtain ⟨x1, x2⟩ := x
          simp only at e c
          rw [c, e]
        · exact Or.inr ⟨e, b, c⟩
theorem sol_srt {D : Cls} : ∀ {vs : List ByteArray}, vs.Pairwise (fun x y => lexB x.data.toList y.data.toList < 0) → Srt (sol D vs)
  | [], _ => fun i j x y _ h => by simp [sol] at h
  | v :: l, h => by
    rw [List.pairwise_cons] at h
    unfold sol
    split
    · exact sol_srt h.2
    · exact srt_cons (sol_srt h.2) fun y hy => h.1 y.1 (sol_mem.1 hy).1
/-! ### The variables, ascending -/
theorem has_iff {M : List ByteArray} {s : ByteArray} : hasB M s = true ↔ s ∈ M := by
  unfold hasB
  rw [List.any_eq_true]
  constructor
  · rintro ⟨x, hx, he⟩
    rw [beq_iff_eq] at he
    rw [← bytes_inj he]
    exact hx
  · intro h
    exact ⟨s, h, by simp⟩
theorem add_mem {M : List ByteArray} {s v : ByteArray} : v ∈ addV M s ↔ v ∈ M ∨ v = s ∧ varB v = true := by
  unfold addV
  split
  · next h =>
    rw [List.mem_append, List.mem_singleton]
    constructor
    · rintro (h1 | rfl)
      · exact Or.inl h1
      · exact Or.inr ⟨rfl, h.1⟩
    · rintro (h1 | ⟨h1, _⟩)
      · exact Or.inl h1
      · exact Or.inr h1
  · next h =>
    constructor
    · exact Or.inl
    · rintro (h1 | ⟨rfl, h2⟩)
      · exact h1
      · cases hh : hasB M v
        · exact absurd ⟨h2, hh⟩ h
        · exact has_iff.1 hh
theorem add_nodup {M : List ByteArray} {s : ByteArray} (h : M.Nodup) : (addV M s).Nodup := by
  unfold addV
  split
  · next hc =>
    rw [List.nodup_append]
    refine ⟨h, by simp, fun a ha b hb => ?_⟩
    obtain rfl := List.mem_singleton.1 hb
    rintro rfl
    rw [has_iff.2 ha] at hc
    exact absurd hc.2 (by simp)
  · exact h
theorem vars_fold : ∀ (xs M : List ByteArray), M.Nodup → (xs.foldl addV M).Nodup ∧ ∀ v, v ∈ xs.foldl addV M ↔ v ∈ M ∨ v ∈ xs ∧ varB v = true
  | [], M, h => ⟨h, fun v => by simp⟩
  | a :: r, M, h => by
    obtain ⟨h1, h2⟩ := vars_fold r (addV M a) (add_nodup h)
    rw [List.foldl_cons]
    refine ⟨h1, fun v => ?_⟩
    rw [h2, add_mem]
    constructor
    · rintro ((h | ⟨rfl, h⟩) | ⟨h, h'⟩)
      · exact Or.inl h
      · exact Or.inr ⟨by simp, h⟩
      · exact Or.inr ⟨by simp [h], h'⟩
    · rintro (h | ⟨h, h'⟩)
      · exact Or.inl (Or.inl h)
      · rcases List.mem_cons.1 h with rfl | h
        · exact Or.inl (Or.inr ⟨rfl, h'⟩)
        · exact Or.inr ⟨h, h'⟩
theorem vars_mem {xs : List ByteArray} {v : ByteArray} : v ∈ varsOf xs ↔ v ∈ xs ∧ varB v = true := by
  have := (vars_fold xs [] List.nodup_nil).2 v
  unfold varsOf
  rw [this]
  simp
theorem vars_nodup (xs : List ByteArray) : (varsOf xs).Nodup := (vars_fold xs [] List.nodup_nil).1
theorem sort_iff {vs : List ByteArray} {v : ByteArray} : v ∈ sortB vs ↔ v ∈ vs := by
  refine ⟨sortB_mem, fun h => ?_⟩
  unfold sortB bytesOf
  refine List.mem_map.2 ⟨v.data.toList, List.mem_mergeSort.2 ?_, rfl⟩
  unfold lists
  exact List.mem_map_of_mem h
theorem sort_asc {vs : List ByteArray} (h : vs.Nodup) : (sortB vs).Pairwise fun x y => lexB x.data.toList y.data.toList < 0 := by
  unfold sortB bytesOf
  rw [List.pairwise_map]
  have h1 := sorted (lists vs)
  have h2 : ((lists vs).mergeSort fun x y => decide (x ≤ y)).Nodup := by
    rw [(List.mergeSort_perm _ _).nodup_iff]
    unfold lists
    rw [List.nodup_iff_pairwise_ne, List.pairwise_map]
    exact (List.nodup_iff_pairwise_ne.1 h).imp fun hne e => hne (bytes_inj e)
  rw [List.nodup_iff_pairwise_ne] at h2
  refine (h1.and h2).imp fun {a b} hab => ?_
  have h3 : lexB a b ≠ 0 := fun e => hab.2 ((lex_zero a b).1 e)
  have h4 := hab.1
  simp only
  omega
end UnuC
end Go.Proofs.YtaenalpckloikaaGreatDoor
