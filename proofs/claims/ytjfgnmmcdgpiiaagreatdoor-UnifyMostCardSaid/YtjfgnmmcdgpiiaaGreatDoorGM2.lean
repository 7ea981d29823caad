/- Texts laid together: UnuC; UnuD; UnuE; UnuF; UnuG; UnuM; UnuH; UnuI. Their own heads stand before each. -/
import Derived.Test.YtjfgnmmcdgpiiaaGreatDoorGM1
import Derived.Test.YtjfgnmmcdgpiiaaGreatDoorUniT
import Derived.Test.YtjfgnmmcdgpiiaaGreatDoorUniS
import Derived.Test.YtjfgnmmcdgpiiaaGreatDoorTermN
/- What the code's Unify answers, as plain data: the one unifier that is most general, idempotent and binds variables to lesser ones, or none. No conditions. -/
namespace Go.Proofs.YtjfgnmmcdgpiiaaGreatDoor
open Go
namespace UnuC
open LexM TermM TermU1 TermE UniM UniA UniC UniG UniH UniO UniY UnmA UnmE UnnC UnuA UnuB
mutual
/-- The parts of a term, itself among them. -/
def subs : Tm → List Tm
  | .mk n l => .mk n l :: subsL l
def subsL : List Tm → List Tm
  | [] => []
  | t :: l => subs t ++ subsL l
end
theorem subsL_mem {y : Tm} : ∀ {l : List Tm}, y ∈ subsL l ↔ ∃ x ∈ l, y ∈ subs x
  | [] => by simp [subsL]
  | t :: l => by simp [subsL, subsL_mem (l := l)]
theorem subs_self (t : Tm) : t ∈ subs t := by
  obtain ⟨n, l⟩ := t
  simp [subs]
theorem subs_len (t : Tm) : (subs t).length = sizeT t := by
  induction t using Tm.ind with
  | h n l ih =>
    have hL : (subsL l).length = sizeL l := by
      induction l with
      | nil => rfl
      | cons a r ihr => rw [subsL, List.length_append, ih a (by simp), ihr fun x hx => ih x (by simp [hx]), sizeL]
    rw [subs, List.length_cons, hL, sizeT]
theorem subs_closed (t : Tm) : ∀ x ∈ subs t, ∀ y ∈ x.args, y ∈ subs t := by
  induction t using Tm.ind with
  | h n l ih =>
    intro x hx y hy
    rw [subs] at hx ⊢
    refine List.mem_cons_of_mem _ (subsL_mem.2 ?_)
    rcases List.mem_cons.1 hx with rfl | hx
    · exact ⟨y, hy, subs_self y⟩
    · obtain ⟨z, hz, hxz⟩ := subsL_mem.1 hx
      exact ⟨z, hz, ih z hz x hxz y hy⟩
theorem subs_valid {d : Nat} (t : Tm) : validT false d t = true → ∀ x ∈ subs t, validT false d x = true := by
  induction t using Tm.ind with
  | h n l ih =>
    intro h x hx
    rw [subs] at hx
    rcases List.mem_cons.1 hx with rfl | hx
    · exact h
    · obtain ⟨z, hz, hxz⟩ := subsL_mem.1 hx
      exact ih z hz (valid_arg h hz) x hxz
theorem subs_leaf {v : ByteArray} (t : Tm) : v ∈ leavesT t → .mk v [] ∈ subs t := by
  induction t using Tm.ind with
  | h n l ih =>
    intro h
    rw [subs]
    cases l with
    | nil =>
      have : v = n := by simpa [leavesT] using h
      rw [this]
      exact List.mem_cons_self
    | cons a r =>
      rw [leaves_fun n (by simp)] at h
      obtain ⟨x, hx, hv⟩ := leaves_mem.1 h
      exact List.mem_cons_of_mem _ (subsL_mem.2 ⟨x, hx, ih x hx hv⟩)
theorem subs_var {x : Tm} (t : Tm) : x ∈ subs t → isV x = true → x.nm ∈ leavesT t := by
  induction t using Tm.ind with
  | h n l ih =>
    intro hx hv
    rw [subs] at hx
    rcases List.mem_cons.1 hx with rfl | hx
    · obtain ⟨rfl, _⟩ := isv_nil hv
      simp [leavesT, Tm.nm]
    · obtain ⟨z, hz, hxz⟩ := subsL_mem.1 hx
      exact leaf_arg hz (ih z hz hxz hv)
/-! ### What a part becomes -/
def res (D : Cls) : Nat → Tm → Tm
  | 0, t => .mk (ldr D t).nm []
  | d + 1, t => .mk (ldr D t).nm ((ldr D t).args.map (res D d))
theorem mapO_all {α β : Type} {f : α → Option β} {g : α → β} : ∀ {l : List α}, (∀ x ∈ l, f x = some (g x)) → mapO f l = some (l.map g)
  | [], _ => rfl
  | x :: l, h => by
    unfold mapO
    rw [h x (by simp), mapO_all (l := l) fun y hy => h y (by simp [hy])]
    rfl
theorem resP_eq {D : Cls} (h : Fo D) {n : Nat} (hn : D.length < n) : ∀ d t, resP D n d t = some (res D d t)
  | 0, t => by unfold resP; rw [lead_n h hn t]; rfl
  | d + 1, t => by
    unfold resP
    rw [lead_n h hn t]
    simp only [Option.bind_some]
    rw [mapO_all (g := res D d) fun x _ => resP_eq h hn d x]
    rfl
theorem res_same {D : Cls} {x y : Tm} (h : ldr D x = ldr D y) (d : Nat) : res D d x = res D d y := by cases d <;> simp [res, h]
theorem res_map {D : Cls} (d : Nat) : ∀ {xs ys : List Tm}, xs.map (ldr D) = ys.map (ldr D) → xs.map (res D d) = ys.map (res D d)
  | [], [], _ => rfl
  | [], _ :: _, h => by simp at h
  | _ :: _, [], h => by simp at h
  | x :: xs, y :: ys, h => by
    rw [List.map_cons, List.map_cons] at h
    injection h with h1 h2
    rw [List.map_cons, List.map_cons, res_same h1 d, res_map d h2]
theorem map_arg {f : Tm → Tm} {n : ByteArray} {l : List Tm} {d : Nat} (h : depthT (.mk n (l.map f)) ≤ d + 1) {x : Tm} (hx : x ∈ l) : depthT (f x) ≤ d := by
  have := depth_arg (n := n) (List.mem_map_of_mem (f := f) hx)
  omega
theorem res_stable {D : Cls} : ∀ d t, depthT (res D d t) ≤ d → res D (d + 1) t = res D d t
  | 0, t, h => by have := depth_pos (res D 0 t); omega
  | d + 1, t, h => by
    rw [res] at h
    rw [res, res]
    congr 1
    exact List.map_congr_left fun x hx => res_stable d x (map_arg h hx)
theorem res_later {D : Cls} {d t} (h : depthT (res D d t) ≤ d) : ∀ e, d ≤ e → res D e t = res D d t := by
  intro e he
  obtain ⟨k, rfl⟩ : ∃ k, e = d + k := ⟨e - d, by omega⟩
  clear he
  induction k with
  | zero => rfl
  | succ k ih =>
    rw [show d + (k + 1) = (d + k) + 1 by omega, res_stable (d + k) t (by rw [ih]; omega), ih]
/-- Classes of some valid terms with all their parts. -/
def Wl (S : List Tm) (D : Cls) : Prop := (∀ x ∈ S, V x) ∧ (∀ x ∈ S, ∀ y ∈ x.args, y ∈ S) ∧ Fo D ∧ InS S D
theorem res_low {S : List Tm} {D : Cls} (W : Wl S D) {σ : Sb} (hs : Sol σ D) : ∀ d t, t ∈ S → depthT (res D d t) ≤ depthT (subT σ t)
  | 0, t, ht => by
    have := depth_pos (subT σ t)
    simpa [res, depthT, depthL] using this
  | d + 1, t, ht => by
    obtain ⟨hS, hc, hF, hI⟩ := W
    have hl := ins_ldr hI ht
    rw [sol_ldr hF (hS t ht) hs, res]
    cases hv : isV (ldr D t)
    · rw [sub_fun' σ _ hv]
      have : depthL ((ldr D t).args.map (res D d)) ≤ depthL ((ldr D t).args.map (subT σ)) := depthL_le fun z hz => by
        obtain ⟨x, hx, rfl⟩ := List.mem_map.1 hz
        exact Nat.le_trans (res_low ⟨hS, hc, hF, hI⟩ hs d x (hc _ hl x hx)) (depthL_mem (List.mem_map_of_mem hx))
      simp only [depthT]
      omega
    · have ha : (ldr D t).args = [] := by rw [(isv_args hv).1]; rfl
      rw [ha]
      have := depth_pos (subT σ (ldr D t))
      simpa [depthT, depthL] using this
theorem res_exact {S : List Tm} {D : Cls} (W : Wl S D) {σ : Sb} (hs : Sol σ D) : ∀ d t, t ∈ S → depthT (res D d t) ≤ d → subT σ (res D d t) = subT σ t
  | 0, t, _, h => by have := depth_pos (res D 0 t); omega
  | d + 1, t, ht, h => by
    obtain ⟨hS, hc, hF, hI⟩ := W
    have hl := ins_ldr hI ht
    rw [sol_ldr hF (hS t ht) hs]
    rw [res] at h ⊢
    cases hv : isV (ldr D t)
    · have hv' : isV (.mk (ldr D t).nm ((ldr D t).args.map (res D d))) = false := by
        rw [← hv]
        exact isv_same rfl (by simp [Tm.args])
      rw [sub_fun' σ _ hv', sub_fun' σ _ hv]
      simp only [Tm.nm, Tm.args, List.map_map]
      congr 1
      exact List.map_congr_left fun x hx => res_exact ⟨hS, hc, hF, hI⟩ hs d x (hc _ hl x hx) (map_arg h hx)
    · have ha : (ldr D t).args = [] := by rw [(isv_args hv).1]; rfl
      rw [ha, List.map_nil, ← (isv_args hv).1]
theorem res_valid {S : List Tm} {D : Cls} (W : Wl S D) : ∀ d t, t ∈ S → depthT (res D d t) ≤ d → validT false d (res D d t) = true
  | 0, t, _, h => by have := depth_pos (res D 0 t); omega
  | d + 1, t, ht, h => by
    obtain ⟨hS, hc, hF, hI⟩ := W
    have hl := ins_ldr hI ht
    have hv := hS _ hl
    have hcl := hc _ hl
    rw [res] at h ⊢
    generalize ldr D t = l at *
    obtain ⟨n, al⟩ := l
    simp only [Tm.nm, Tm.args] at *
    unfold V validT at hv
    unfold validT
    split at hv
    · next he =>
      have : al = [] := by simpa using he
      subst this
      exact hv
    · next he =>
      rw [if_neg (by simpa using he)]
      rw [Bool.and_eq_true, List.all_eq_true] at hv ⊢
      refine ⟨by rw [List.length_map]; exact hv.1, fun z hz => ?_⟩
      obtain ⟨x, hx, rfl⟩ := List.mem_map.1 hz
      exact res_valid ⟨hS, hc, hF, hI⟩ d x (hcl x hx) (map_arg h hx)
/-- A part has the head of its leader, and their arguments the same leaders. -/
theorem head_ldr {S : List Tm} {D : Cls} (hI : InS S D) (hC : ∀ e ∈ D, ClE D S e) {t : Tm} (ht : t ∈ S) (hv : isV t = false) : (ldr D t).nm = t.nm ∧ (ldr D t).args.map (ldr D) = t.args.map (ldr D) := by
  have gen : ∀ D0 E : Cls, E ++ D0 = D → (ldr D0 t).nm = t.nm ∧ (ldr D0 t).args.map (ldr D) = t.args.map (ldr D) := by
    intro D0
    induction D0 with
    | nil => intro E _; exact ⟨rfl, rfl⟩
    | cons e D0 ih =>
      intro E hE
      obtain ⟨k, x⟩ := e
      obtain ⟨h1, h2⟩ := ih (E ++ [(k, x)]) (by rw [List.append_assoc]; exact hE)
      unfold ldr
      by_cases he : textT (ldr D0 t) = k
      · rw [if_pos he]
        have hl : ldr D0 t ∈ S := ins_ldr (fun e he => hI e (by rw [← hE]; simp [he])) ht
        have hlv : isV (ldr D0 t) = false := by
          rw [← hv]
          exact isv_same h1 (by have := congrArg List.length h2; simpa using this)
        obtain ⟨h3, h4⟩ := hC (k, x) (by rw [← hE]; simp) _ hl he hlv
        exact ⟨h3.trans h1, h4.trans h2⟩
      · rw [if_neg he]
        exact ⟨h1, h2⟩
  exact gen D [] rfl
/-! ### The unifier -/
def sol (D : Cls) : List ByteArray → List Bd
  | [] => []
  | v :: l => if eqB (res D 4 (.mk v [])).nm v = true then sol D l else (v, res D 4 (.mk v [])) :: sol D l
theorem solP_eq {D : Cls} (h : Fo D) {n : Nat} (hn : D.length < n) : ∀ vs, solP D n vs = some (sol D vs)
  | [] => rfl
  | v :: l => by
    unfold solP sol
    rw [resP_eq h hn, solP_eq h hn l]
    simp only [Option.bind_some, Option.map_some]
theorem sol_mem {D : Cls} {x : Bd} : ∀ {vs}, x ∈ sol D vs ↔ x.1 ∈ vs ∧ (res D 4 (.mk x.1 [])).nm ≠ x.1 ∧ x.2 = res D 4 (.mk x.1 [])
  | [] => by simp [sol]
  | v :: l => by
    unfold sol
    by_cases h : eqB (res D 4 (.mk v [])).nm v = true
    · rw [if_pos h, sol_mem]
      rw [eqB_iff] at h
      constructor
      · rintro ⟨a, b, c⟩; exact ⟨by simp [a], b, c⟩
      · rintro ⟨a, b, c⟩
        rcases List.mem_cons.1 a with e | e
        · rw [e] at b; exact absurd h b
        · exact ⟨e, b, c⟩
    · rw [if_neg h, List.mem_cons, sol_mem]
      rw [eqB_iff] at h
      constructor
      · rintro (rfl | ⟨a, b, c⟩)
        · exact ⟨by simp, h, rfl⟩
        · exact ⟨by simp [a], b, c⟩
      · rintro ⟨a, b, c⟩
        rcases List.mem_cons.1 a with e | e
        · left
          obtain ⟨x1, x2⟩ := x
          simp only at e c
          rw [c, e]
        · exact Or.inr ⟨e, b, c⟩
theorem sol_srt {D : Cls} : ∀ {vs : List ByteArray}, vs.Pairwise (fun x y => lexB x.data.toList y.data.toList < 0) → Srt (sol D vs)
  | [], _ => fun i j x y _ h => by simp [sol] at h
  | v :: l, h => by
    rw [List.pairwise_cons] at h
    unfold sol
    split
    · exact sol_srt h.2
    · exact srt_cons (sol_srt h.2) fun y hy => h.1 y.1 (sol_mem.1 hy).1
/-! ### The variables, ascending -/
theorem has_iff {M : List ByteArray} {s : ByteArray} : hasB M s = true ↔ s ∈ M := by
  unfold hasB
  rw [List.any_eq_true]
  constructor
  · rintro ⟨x, hx, he⟩
    rw [beq_iff_eq] at he
    rw [← bytes_inj he]
    exact hx
  · intro h
    exact ⟨s, h, by simp⟩
theorem add_mem {M : List ByteArray} {s v : ByteArray} : v ∈ addV M s ↔ v ∈ M ∨ v = s ∧ varB v = true := by
  unfold addV
  split
  · next h =>
    rw [List.mem_append, List.mem_singleton]
    constructor
    · rintro (h1 | rfl)
      · exact Or.inl h1
      · exact Or.inr ⟨rfl, h.1⟩
    · rintro (h1 | ⟨h1, _⟩)
      · exact Or.inl h1
      · exact Or.inr h1
  · next h =>
    constructor
    · exact Or.inl
    · rintro (h1 | ⟨rfl, h2⟩)
      · exact h1
      · cases hh : hasB M v
        · exact absurd ⟨h2, hh⟩ h
        · exact has_iff.1 hh
theorem add_nodup {M : List ByteArray} {s : ByteArray} (h : M.Nodup) : (addV M s).Nodup := by
  unfold addV
  split
  · next hc =>
    rw [List.nodup_append]
    refine ⟨h, by simp, fun a ha b hb => ?_⟩
    obtain rfl := List.mem_singleton.1 hb
    rintro rfl
    rw [has_iff.2 ha] at hc
    exact absurd hc.2 (by simp)
  · exact h
theorem vars_fold : ∀ (xs M : List ByteArray), M.Nodup → (xs.foldl addV M).Nodup ∧ ∀ v, v ∈ xs.foldl addV M ↔ v ∈ M ∨ v ∈ xs ∧ varB v = true
  | [], M, h => ⟨h, fun v => by simp⟩
  | a :: r, M, h => by
    obtain ⟨h1, h2⟩ := vars_fold r (addV M a) (add_nodup h)
    rw [List.foldl_cons]
    refine ⟨h1, fun v => ?_⟩
    rw [h2, add_mem]
    constructor
    · rintro ((h | ⟨rfl, h⟩) | ⟨h, h'⟩)
      · exact Or.inl h
      · exact Or.inr ⟨by simp, h⟩
      · exact Or.inr ⟨by simp [h], h'⟩
    · rintro (h | ⟨h, h'⟩)
      · exact Or.inl (Or.inl h)
      · rcases List.mem_cons.1 h with rfl | h
        · exact Or.inl (Or.inr ⟨rfl, h'⟩)
        · exact Or.inr ⟨h, h'⟩
theorem vars_mem {xs : List ByteArray} {v : ByteArray} : v ∈ varsOf xs ↔ v ∈ xs ∧ varB v = true := by
  have := (vars_fold xs [] List.nodup_nil).2 v
  unfold varsOf
  rw [this]
  simp
theorem vars_nodup (xs : List ByteArray) : (varsOf xs).Nodup := (vars_fold xs [] List.nodup_nil).1
theorem sort_iff {vs : List ByteArray} {v : ByteArray} : v ∈ sortB vs ↔ v ∈ vs := by
  refine ⟨sortB_mem, fun h => ?_⟩
  unfold sortB bytesOf
  refine List.mem_map.2 ⟨v.data.toList, List.mem_mergeSort.2 ?_, rfl⟩
  unfold lists
  exact List.mem_map_of_mem h
theorem sort_asc {vs : List ByteArray} (h : vs.Nodup) : (sortB vs).Pairwise fun x y => lexB x.data.toList y.data.toList < 0 := by
  unfold sortB bytesOf
  rw [List.pairwise_map]
  have h1 := sorted (lists vs)
  have h2 : ((lists vs).mergeSort fun x y => decide (x ≤ y)).Nodup := by
    rw [(List.mergeSort_perm _ _).nodup_iff]
    unfold lists
    rw [List.nodup_iff_pairwise_ne, List.pairwise_map]
    exact (List.nodup_iff_pairwise_ne.1 h).imp fun hne e => hne (bytes_inj e)
  rw [List.nodup_iff_pairwise_ne] at h2
  refine (h1.and h2).imp fun {a b} hab => ?_
  have h3 : lexB a b ≠ 0 := fun e => hab.2 ((lex_zero a b).1 e)
  have h4 := hab.1
  simp only
  omega
end UnuC
end Go.Proofs.YtjfgnmmcdgpiiaaGreatDoor
/- The one most general unifier: it is unique, and the code's Unify answers it, or none where there is none. No conditions. -/
namespace Go.Proofs.YtjfgnmmcdgpiiaaGreatDoor
open Go
namespace UnuD
open LexM TermM TermU1 TermE UniM UniA UniC UniG UniH UniO UniY UnmA UnmE UnnC UnuA UnuB UnuC
/-- Ascending bindings of variables to valid terms other than themselves. -/
def Fine (s : List Bd) : Prop := Srt s ∧ (∀ x ∈ s, varB x.1 = true) ∧ (∀ x ∈ s, validT false 4 x.2 = true) ∧ ∀ x ∈ s, x.2 ≠ .mk x.1 []
/-- A unifier that is its own repetition, of which every other one is an instance, and that binds variables to lesser ones. -/
def Canon (a b : Tm) (s : List Bd) : Prop :=
  Fine s ∧ subT (asF s) a = subT (asF s) b ∧ (∀ v, varB v = true → subT (asF s) (asF s v) = asF s v) ∧ (∀ σ : Sb, subT σ a = subT σ b → ∀ v, varB v = true → subT σ (asF s v) = σ v) ∧
    ∀ v w, varB v = true → varB w = true → asF s v = .mk w [] → w = v ∨ ltB w v = true
theorem ltB_irr (a : ByteArray) : ltB a a = false := by
  cases h : ltB a a
  · rfl
  · rw [lt_lex] at h
    have := (lex_zero a.data.toList a.data.toList).2 rfl
    omega
theorem ltB_asym {a b : ByteArray} (h : ltB a b = true) : ltB b a = false := by
  cases h' : ltB b a
  · rfl
  · have := ltB_trans h h'
    rw [ltB_irr] at this
    cases this
/-- What is kept by one is kept by the other one. -/
theorem canon_keep {a b : Tm} {s s' : List Bd} (h : Canon a b s) (h' : Canon a b s') {w : ByteArray} (hw : varB w = true) (hk : asF s w = .mk w []) : asF s' w = .mk w [] := by
  obtain ⟨_, hu, _, hm, hl⟩ := h
  obtain ⟨_, hu', _, hm', hl'⟩ := h'
  -- the first one takes the second one's term back
  have h1 : subT (asF s) (asF s' w) = .mk w [] := by rw [hm' _ hu w hw, hk]
  rcases hz : asF s' w with ⟨n, l⟩
  have hv : isV (.mk n l) = true := by
    cases hv : isV (.mk n l)
    · rw [hz, sub_fun _ n l hv] at h1
      injection h1 with e1 e2
      have : l = [] := by simpa using e2
      subst this
      rw [e1, isv_mk hw] at hv
      cases hv
    · rfl
  obtain ⟨rfl, hn⟩ := isv_nil hv
  rw [hz, sub_var _ hn] at h1
  rcases hl' w n hw hn hz with e | e
  · rw [e]
  · rcases hl n w hn hw h1 with e2 | e2
    · rw [e2]
    · rw [ltB_asym e] at e2
      cases e2
theorem canon_same {a b : Tm} {s s' : List Bd} (h : Canon a b s) (h' : Canon a b s') {v : ByteArray} (hv : varB v = true) : asF s v = asF s' v := by
  have h1 := h.2.2.1 v hv
  have h2 := h'
  obtain ⟨_, hu', _, _, _⟩ := h'
  rw [← h.2.2.2.1 _ hu' v hv]
  exact (sub_id _ fun w hw hb => canon_keep h h2 hb (sub_fix _ h1 w hw hb)).symm
theorem asF_mem {s : List Bd} (h : Fine s) {x : Bd} : x ∈ s ↔ varB x.1 = true ∧ x.2 = asF s x.1 ∧ x.2 ≠ .mk x.1 [] := by
  obtain ⟨h1, h2, _, h4⟩ := h
  constructor
  · intro hx
    refine ⟨h2 x hx, ?_, h4 x hx⟩
    unfold asF
    rw [look_of h1 (show (x.1, x.2) ∈ s from hx)]
    rfl
  · rintro ⟨_, e, hne⟩
    unfold asF at e
    cases hl : lookS s x.1 with
    | none => rw [hl] at e; exact absurd e hne
    | some u =>
      rw [hl] at e
      have := UniY.look_mem hl
      simp only [Option.getD_some] at e
      rw [← e] at this
      exact this
theorem canon_unique {a b : Tm} {s s' : List Bd} (h : Canon a b s) (h' : Canon a b s') : s = s' := by
  refine srt_eq s s' h.1.1 h'.1.1 fun x => ?_
  rw [asF_mem h.1, asF_mem h'.1]
  constructor
  · rintro ⟨hv, e, hn⟩; exact ⟨hv, by rw [← canon_same h h' hv]; exact e, hn⟩
  · rintro ⟨hv, e, hn⟩; exact ⟨hv, by rw [canon_same h h' hv]; exact e, hn⟩
theorem canon_turn {a b : Tm} {s : List Bd} (h : Canon a b s) : Canon b a s := by
  obtain ⟨h1, h2, h3, h4, h5⟩ := h
  exact ⟨h1, h2.symm, h3, fun σ e => h4 σ e.symm, h5⟩
/-- What an answer must be. -/
def Spec (a b : Tm) (o : Option (List Bd)) : Prop :=
  (∃ s, Canon a b s ∧ o = if s.length ≤ 64 then some s else none) ∨ (o = none ∧ ∀ σ : Sb, (∀ v, varB v = true → depthT (σ v) ≤ 4) → subT σ a ≠ subT σ b)
theorem depth_asF {s : List Bd} (h : Fine s) {v : ByteArray} (_hv : varB v = true) : depthT (asF s v) ≤ 4 := by
  unfold asF
  cases hl : lookS s v with
  | none => simp [depthT, depthL]
  | some u => exact valid_depth (h.2.2.1 _ (UniY.look_mem hl))
theorem spec_unique {a b : Tm} {o o' : Option (List Bd)} (h : Spec a b o) (h' : Spec a b o') : o = o' := by
  rcases h with ⟨s, h, rfl⟩ | ⟨rfl, h⟩
  · rcases h' with ⟨s', h', rfl⟩ | ⟨rfl, h'⟩
    · rw [canon_unique h h']
    · exact absurd h.2.1 (h' _ fun v hv => depth_asF h.1 hv)
  · rcases h' with ⟨s', h', rfl⟩ | ⟨rfl, h'⟩
    · exact absurd h'.2.1 (h _ fun v hv => depth_asF h'.1 hv)
    · rfl
theorem spec_turn {a b : Tm} {o : Option (List Bd)} (h : Spec a b o) : Spec b a o := by
  rcases h with ⟨s, h, rfl⟩ | ⟨rfl, h⟩
  · exact Or.inl ⟨s, canon_turn h, rfl⟩
  · exact Or.inr ⟨rfl, fun σ hb e => h σ hb e.symm⟩
theorem fine_vld {s : List Bd} (h : Fine s) : vldS s = decide (s.length ≤ 64) := by
  obtain ⟨h1, h2, h3, _⟩ := h
  rw [Bool.eq_iff_iff, vld_iff, decide_eq_true_iff]
  constructor
  · exact fun h => h.1
  · intro hl
    refine ⟨hl, fun j t _ ht => ⟨h2 t (List.mem_of_getElem? ht), h3 t (List.mem_of_getElem? ht)⟩, fun j x y _ hx hy => ?_⟩
    rw [lt_lex]
    exact h1 j (j + 1) x y (by omega) hx hy
/-! ### The code's answer -/
theorem code_spec {a b : Tm} (ha : V a) (hb : V b) : ∃ n o, unifyP n a b = some o ∧ Spec a b o ∧ ∀ D r, joinP n [] a b = some (D, r) → D.length ≤ sizeT a + sizeT b := by
  obtain ⟨S, hSd⟩ : ∃ S, S = subs a ++ subs b := ⟨_, rfl⟩
  have hSl : S.length = sizeT a + sizeT b := by rw [hSd, List.length_append, subs_len, subs_len]
  have hS : ∀ x ∈ S, V x := by
    intro x hx
    rw [hSd] at hx
    rcases List.mem_append.1 hx with h | h
    · exact subs_valid a ha x h
    · exact subs_valid b hb x h
  have hc : ∀ x ∈ S, ∀ y ∈ x.args, y ∈ S := by
    intro x hx y hy
    rw [hSd] at hx ⊢
    rcases List.mem_append.1 hx with h | h
    · exact List.mem_append_left _ (subs_closed a x h y hy)
    · exact List.mem_append_right _ (subs_closed b x h y hy)
  have maS : a ∈ S := by rw [hSd]; exact List.mem_append_left _ (subs_self a)
  have mbS : b ∈ S := by rw [hSd]; exact List.mem_append_right _ (subs_self b)
  obtain ⟨D, r, ej, E, rfl, hF, hI, ht, hf⟩ := join_ok hS hc (2 * S.length + 2) [] a b Fo.nil (fun _ h => by cases h) maS mbS (by omega)
  have hDl : (E ++ []).length ≤ S.length := fo_len hF hI
  rw [List.append_nil] at *
  generalize hn : 2 * S.length + 2 = n at *
  have hlen : ∀ D r, joinP n [] a b = some (D, r) → D.length ≤ sizeT a + sizeT b := by
    intro D r' h
    rw [ej] at h
    injection h with h
    injection h with h1 _
    rw [← h1, ← hSl]
    exact hDl
  have hval : (validT false 4 a && validT false 4 b) = true := by rw [show validT false 4 a = true from ha, show validT false 4 b = true from hb]; rfl
  have eu : unifyP n a b = if r = true then (solP E n (sortB (varsOf (leavesL [a, b])))).map (fun s => if vldS s = true then some s else none) else some none := by
    unfold unifyP
    rw [hval, if_neg (by decide), ej]
    clear hlen ej ht hf
    cases r <;> rfl
  cases r
  · rw [if_neg (by decide)] at eu
    refine ⟨n, none, eu, Or.inr ⟨rfl, fun σ _ e => ?_⟩, hlen⟩
    exact hf rfl σ (sol_nil σ) (by simp [e])
  · obtain ⟨h1, h2, h3⟩ := ht rfl
    simp only [List.map_cons, List.map_nil, List.cons.injEq, and_true] at h1 h3
    have hsol : ∀ σ, Sol σ E ↔ subT σ a = subT σ b := fun σ => by rw [h3]; exact ⟨fun h => h.2, fun h => ⟨sol_nil σ, h⟩⟩
    have W : Wl S E := ⟨hS, hc, hF, hI⟩
    rw [if_pos rfl, solP_eq hF (by omega)] at eu
    simp only [Option.map_some] at eu
    generalize hvs : sortB (varsOf (leavesL [a, b])) = vs at *
    have mem_vs : ∀ v, v ∈ vs ↔ varB v = true ∧ .mk v [] ∈ S := by
      intro v
      rw [← hvs, sort_iff, vars_mem, leaves_mem]
      constructor
      · rintro ⟨⟨x, hx, hv⟩, hb⟩
        refine ⟨hb, ?_⟩
        rw [hSd]
        rcases List.mem_cons.1 hx with rfl | hx
        · exact List.mem_append_left _ (subs_leaf _ hv)
        · obtain rfl := List.mem_singleton.1 hx
          exact List.mem_append_right _ (subs_leaf _ hv)
      · rintro ⟨hb, hm⟩
        refine ⟨?_, hb⟩
        rw [hSd] at hm
        rcases List.mem_append.1 hm with h | h
        · exact ⟨a, by simp, subs_var a h (isv_mk hb)⟩
        · exact ⟨b, by simp, subs_var b h (isv_mk hb)⟩
    have hasc : vs.Pairwise fun x y => lexB x.data.toList y.data.toList < 0 := by rw [← hvs]; exact sort_asc (vars_nodup _)
    -- a variable that becomes something of its own name is its own leader
    have hown : ∀ v, v ∈ vs → (res E 4 (.mk v [])).nm = v → res E 4 (.mk v []) = .mk v [] := by
      intro v hv he
      obtain ⟨hb, hm⟩ := (mem_vs v).1 hv
      have e1 : (ldr E (.mk v [])).nm = v := by simpa [res, Tm.nm] using he
      have e2 := valid_named (ldr_valid hF (hS _ hm)) (by rw [e1]; exact hb)
      rw [e1] at e2
      rw [res, e2]
      rfl
    by_cases hd : ∀ v ∈ vs, depthT (res E 4 (.mk v [])) ≤ 4
    · obtain ⟨s, hs⟩ : ∃ s, s = sol E vs := ⟨_, rfl⟩
      have smem : ∀ {x : Bd}, x ∈ s ↔ x.1 ∈ vs ∧ (res E 4 (.mk x.1 [])).nm ≠ x.1 ∧ x.2 = res E 4 (.mk x.1 []) := by intro x; rw [hs]; exact sol_mem
      have hsrt : Srt s := by rw [hs]; exact sol_srt hasc
      have fine : Fine s := by
        refine ⟨hsrt, fun x hx => ((mem_vs _).1 (smem.1 hx).1).1, fun x hx => ?_, fun x hx e => ?_⟩
        · obtain ⟨h1, _, h3⟩ := smem.1 hx
          rw [h3]
          exact UnuC.res_valid W 4 _ ((mem_vs _).1 h1).2 (hd _ h1)
        · obtain ⟨h1, h2, h3⟩ := smem.1 hx
          rw [h3] at e
          rw [e] at h2
          exact h2 rfl
      have asFv : ∀ v, v ∈ vs → asF s v = res E 4 (.mk v []) := by
        intro v hv
        unfold asF
        by_cases he : (res E 4 (.mk v [])).nm = v
        · rw [hown v hv he]
          cases hl : lookS s v with
          | none => rfl
          | some u =>
            have := (smem.1 (UniY.look_mem hl)).2.1
            exact absurd he this
        · rw [look_of hsrt ((@smem (v, res E 4 (.mk v []))).2 ⟨hv, he, rfl⟩)]
          rfl
      have asFn : ∀ v, v ∉ vs → asF s v = .mk v [] := by
        intro v hv
        unfold asF
        cases hl : lookS s v with
        | none => rfl
        | some u => exact absurd (smem.1 (UniY.look_mem hl)).1 hv
      have whole : ∀ t, t ∈ S → subT (asF s) t = res E (4 + depthT t) t ∧ depthT (subT (asF s) t) ≤ 4 + depthT t := by
        intro t
        induction t using Tm.ind with
        | h m l ih =>
          intro hm
          cases hv : isV (.mk m l)
          · have hl : ∀ x ∈ l, x ∈ S := hc _ hm
            obtain ⟨g1, g2⟩ := head_ldr hI h2 hm hv
            rw [sub_fun _ m l hv]
            have e1 : l.map (subT (asF s)) = l.map (res E (4 + depthL l)) := by
              refine List.map_congr_left fun x hx => ?_
              obtain ⟨q1, q2⟩ := ih x hx (hl x hx)
              rw [q1] at q2 ⊢
              exact (res_later q2 _ (by have := depthL_mem hx; omega)).symm
            constructor
            · rw [show 4 + depthT (.mk m l) = (4 + depthL l) + 1 by simp only [depthT]; omega, res, res_map _ g2, g1, e1]
              rfl
            · have : ∀ z ∈ l.map (subT (asF s)), depthT z ≤ 4 + depthL l := by
                intro z hz
                obtain ⟨x, hx, rfl⟩ := List.mem_map.1 hz
                have := (ih x hx (hl x hx)).2
                have := depthL_mem hx
                omega
              have := depth_le (n := m) this
              simp only [depthT] at this ⊢
              omega
          · obtain ⟨rfl, hb⟩ := isv_nil hv
            have hm' : m ∈ vs := (mem_vs m).2 ⟨hb, hm⟩
            rw [sub_var _ hb, asFv m hm']
            have := hd m hm'
            exact ⟨(res_later this _ (by omega)).symm, by omega⟩
      have huni : subT (asF s) a = subT (asF s) b := by
        obtain ⟨p1, p2⟩ := whole a maS
        obtain ⟨q1, q2⟩ := whole b mbS
        rw [p1] at p2
        rw [q1] at q2
        rw [p1, q1, ← res_later p2 (4 + depthT a + depthT b) (by omega), ← res_later q2 (4 + depthT a + depthT b) (by omega)]
        exact res_same h1 _
      have hmost : ∀ σ : Sb, subT σ a = subT σ b → ∀ v, varB v = true → subT σ (asF s v) = σ v := by
        intro σ e v hv
        by_cases hm : v ∈ vs
        · rw [asFv v hm, UnuC.res_exact W ((hsol σ).2 e) 4 _ ((mem_vs v).1 hm).2 (hd v hm), sub_var _ hv]
        · rw [asFn v hm, sub_var _ hv]
      have canon : Canon a b s := by
        refine ⟨fine, huni, fun v hv => hmost _ huni v hv, hmost, fun v w hv hw e => ?_⟩
        by_cases hm : v ∈ vs
        · rw [asFv v hm] at e
          have hmS := ((mem_vs v).1 hm).2
          rw [res] at e
          injection e with e1 e2
          have hl : (ldr E (.mk v [])).args = [] := by simpa using e2
          have hlv : isV (ldr E (.mk v [])) = true := by
            unfold isV
            rw [hl, e1, hw]
            rfl
          rcases (ldr_var hF (hS _ hmS) hlv).2 with h | h
          · left
            rw [h] at e1
            exact e1.symm
          · right
            rw [e1] at h
            exact h
        · rw [asFn v hm] at e
          injection e with e1 _
          exact Or.inl e1.symm
      refine ⟨n, _, eu, Or.inl ⟨s, canon, ?_⟩, hlen⟩
      rw [← hs, fine_vld fine]
      by_cases hle : s.length ≤ 64 <;> simp [hle]
    · -- some variable would become too deep a term
      have hd' : ∃ v, v ∈ vs ∧ ¬ depthT (res E 4 (.mk v [])) ≤ 4 := by
        apply Classical.byContradiction
        intro h
        exact hd fun v hv => Classical.byContradiction fun h' => h ⟨v, hv, h'⟩
      obtain ⟨v, hv, hdv⟩ := hd'
      obtain ⟨hb, hm⟩ := (mem_vs v).1 hv
      have hvl : vldS (sol E vs) = false := by
        cases hx : vldS (sol E vs)
        · rfl
        · exfalso
          have h4 := ((vld_iff _).1 hx).2
          have hmem : (v, res E 4 (.mk v [])) ∈ sol E vs := by
            refine sol_mem.2 ⟨hv, fun e => ?_, rfl⟩
            simp only at e
            rw [hown v hv e] at hdv
            simp [depthT, depthL] at hdv
          obtain ⟨i, hi⟩ := List.mem_iff_getElem?.1 hmem
          have := (h4.1 i _ (List.getElem?_eq_some_iff.1 hi).1 hi).2
          exact hdv (valid_depth this)
      refine ⟨n, none, by rw [eu, hvl]; rfl, Or.inr ⟨rfl, fun σ hbd e => hdv ?_⟩, hlen⟩
      have := res_low W ((hsol σ).2 e) 4 _ hm
      rw [sub_var _ hb] at this
      exact Nat.le_trans this (hbd v hb)
end UnuD
end Go.Proofs.YtjfgnmmcdgpiiaaGreatDoor
/- The reference's Unify as plain data, with fuel: it answers the one most general unifier, too. No conditions. -/
namespace Go.Proofs.YtjfgnmmcdgpiiaaGreatDoor
open Go
namespace UnuE
open LexM TermM TermU1 TermE UniM UniA UniC UniG UniH UniO UniP UniY UnmA UnmE UnnC UnuA UnuB UnuC UnuD
/-- Is the variable among the leaves? -/
def occB (v : ByteArray) (t : Tm) : Bool := (leavesT t).any fun n => varB n && eqB n v
def deepB (t : Tm) : Bool := decide (4 < depthT t)
def oneS (v : ByteArray) (t : Tm) : List Bd := [(v, t)]
def bindR (s : List Bd) (v : ByteArray) (t : Tm) : Option (List Bd) :=
  if occB v t || deepB t then none else if s.any (fun x => deepB (appT (oneS v t) x.2)) then none else some (putS (v, t) (s.map fun x => (x.1, appT (oneS v t) x.2)))
def solveL (f : Tm → Tm → List Bd → Option (Option (List Bd))) : List Tm → List Tm → List Bd → Option (Option (List Bd))
  | x :: xs, y :: ys, s => match f x y s with
    | none => none
    | some none => some none
    | some (some s') => solveL f xs ys s'
  | _, _, s => some (some s)
/-- One step behind the replacement. -/
def solveB (f : Tm → Tm → List Bd → Option (Option (List Bd))) (a b : Tm) (s : List Bd) : Option (Option (List Bd)) :=
  if cmpT a b = 0 then some (some s) else if (isV a && isV b && ltB a.nm b.nm) = true then some (bindR s b.nm a) else if isV a = true then some (bindR s a.nm b) else if isV b = true then some (bindR s b.nm a) else
    if headE a b = true then solveL f a.args b.args s else some none
def solveP : Nat → Tm → Tm → List Bd → Option (Option (List Bd))
  | 0, _, _, _ => none
  | n + 1, a, b, s => solveB (solveP n) (appT s a) (appT s b) s
theorem solveL_mono {f g : Tm → Tm → List Bd → Option (Option (List Bd))} (h : ∀ a b s o, f a b s = some o → g a b s = some o) : ∀ xs ys s o, solveL f xs ys s = some o → solveL g xs ys s = some o
  | [], _, _, _, e => by simpa [solveL] using e
  | _ :: _, [], _, _, e => by simpa [solveL] using e
  | x :: xs, y :: ys, s, o, e => by
    unfold solveL at e ⊢
    cases he : f x y s with
    | none => rw [he] at e; cases e
    | some z =>
      rw [he] at e
      rw [h _ _ _ _ he]
      cases z with
      | none => exact e
      | some s' => exact solveL_mono h xs ys s' o e
theorem solveP_succ : ∀ n a b s o, solveP n a b s = some o → solveP (n + 1) a b s = some o
  | 0, _, _, _, _, h => by cases h
  | n + 1, a, b, s, o, h => by
    rw [solveP] at h ⊢
    unfold solveB at h ⊢
    split at h
    · next c => rw [if_pos c]; exact h
    · next c =>
      rw [if_neg c]
      split at h
      · next c => rw [if_pos c]; exact h
      · next c =>
        rw [if_neg c]
        split at h
        · next c => rw [if_pos c]; exact h
        · next c =>
          rw [if_neg c]
          split at h
          · next c => rw [if_pos c]; exact h
          · next c =>
            rw [if_neg c]
            split at h
            · next c => rw [if_pos c]; exact solveL_mono (solveP_succ n) _ _ _ _ h
            · next c => rw [if_neg c]; exact h
theorem solveP_mono {n m : Nat} (hm : n ≤ m) {a b : Tm} {s : List Bd} {o : Option (List Bd)} (h : solveP n a b s = some o) : solveP m a b s = some o := by
  obtain ⟨k, rfl⟩ : ∃ k, m = n + k := ⟨m - n, by omega⟩
  clear hm
  induction k with
  | zero => exact h
  | succ k ih => exact solveP_succ _ _ _ _ _ ih
/-! ### What holds of the substitution under way -/
abbrev Wf (t : Tm) : Prop := ∃ d, validT false d t = true
/-- No variable of the term is bound. -/
def Fr (s : List Bd) (t : Tm) : Prop := ∀ w ∈ leavesT t, varB w = true → lookS s w = none
def Inv (s : List Bd) : Prop := Fine s ∧ (∀ x ∈ s, Fr s x.2) ∧ ∀ x ∈ s, isV x.2 = true → ltB x.2.nm x.1 = true
def Solves (σ : Sb) (s : List Bd) : Prop := ∀ x ∈ s, subT σ x.2 = σ x.1
theorem look_none {s : List Bd} {v : ByteArray} : lookS s v = none ↔ ∀ x ∈ s, x.1 ≠ v := by
  unfold lookS
  rw [Option.map_eq_none_iff, List.find?_eq_none]
  constructor
  · intro h x hx e
    exact h x hx (eqB_iff.2 e)
  · intro h x hx e
    exact h x hx (eqB_iff.1 e)
theorem solves_app {σ : Sb} {s : List Bd} (hV : ∀ b ∈ s, varB b.1 = true) (h : Solves σ s) (t : Tm) : subT σ (appT s t) = subT σ t := by
  rw [app_sub hV, sub_comp]
  refine sub_congr t fun v _ hv => ?_
  unfold asF
  cases hl : lookS s v with
  | none => exact sub_var σ hv
  | some u => exact h _ (UniY.look_mem hl)
theorem leaves_sub {σ : Sb} {w : ByteArray} (hw : varB w = true) (t : Tm) : w ∈ leavesT (subT σ t) → ∃ z ∈ leavesT t, varB z = true ∧ w ∈ leavesT (σ z) := by
  induction t using Tm.ind with
  | h n l ih =>
    intro h
    cases hv : isV (.mk n l)
    · rw [sub_fun _ n l hv] at h
      have hv' : isV (.mk n (l.map (subT σ))) = false := by
        rw [← hv]
        exact isv_same rfl (by simp [Tm.args])
      obtain ⟨x, hx, hl⟩ := leaf_fun hv' h hw
      obtain ⟨y, hy, rfl⟩ := List.mem_map.1 hx
      obtain ⟨z, hz, hzv, hwz⟩ := ih y hy hl
      exact ⟨z, leaf_arg hy hz, hzv, hwz⟩
    · obtain ⟨rfl, hn⟩ := isv_nil hv
      rw [sub_var _ hn] at h
      exact ⟨n, by simp [leavesT], hn, h⟩
theorem one_var {v : ByteArray} {t : Tm} (hv : varB v = true) : ∀ b ∈ oneS v t, varB b.1 = true := by
  intro b hb
  obtain rfl := List.mem_singleton.1 hb
  exact hv
theorem one_asF (v w : ByteArray) (t : Tm) : asF (oneS v t) w = if w = v then t else .mk w [] := by
  unfold asF lookS oneS
  rw [List.find?_cons]
  by_cases h : w = v
  · rw [if_pos h, eqB_iff.2 h.symm]
    rfl
  · rw [if_neg h]
    have : eqB v w = false := by
      cases he : eqB v w
      · rfl
      · exact absurd (eqB_iff.1 he).symm h
    rw [this]
    rfl
/-- The leaves of a term in which one variable is replaced. -/
theorem leaves_one {v w : ByteArray} {t x : Tm} (hv : varB v = true) (hw : varB w = true) (h : w ∈ leavesT (appT (oneS v t) x)) : w ∈ leavesT t ∨ w ∈ leavesT x ∧ w ≠ v := by
  rw [app_sub (one_var hv)] at h
  obtain ⟨z, hz, hzv, hwz⟩ := leaves_sub hw x h
  rw [one_asF] at hwz
  by_cases e : z = v
  · rw [if_pos e] at hwz; exact Or.inl hwz
  · rw [if_neg e] at hwz
    have : w = z := by simpa [leavesT] using hwz
    rw [this]
    exact Or.inr ⟨hz, e⟩
theorem wf_sub {σ : Sb} {k : Nat} (hσ : ∀ v, varB v = true → validT false k (σ v) = true) {t : Tm} (h : Wf t) : Wf (subT σ t) := by
  obtain ⟨d, h⟩ := h
  exact ⟨d + k, valid_sub hσ h⟩
theorem asF_valid {s : List Bd} {k : Nat} (hk : 1 ≤ k) (h : ∀ x ∈ s, validT false k x.2 = true) {v : ByteArray} (hv : varB v = true) : validT false k (asF s v) = true := by
  unfold asF
  cases hl : lookS s v with
  | none =>
    obtain ⟨d, rfl⟩ : ∃ d, k = d + 1 := ⟨k - 1, by omega⟩
    exact valid_var hv d
  | some u => exact h _ (UniY.look_mem hl)
theorem wf_app {s : List Bd} (hs : Fine s) {t : Tm} (h : Wf t) : Wf (appT s t) := by
  rw [app_sub hs.2.1]
  exact wf_sub (fun v hv => asF_valid (k := 4) (by omega) hs.2.2.1 hv) h
theorem wf_arg {t x : Tm} (h : Wf t) (hx : x ∈ t.args) : Wf x := by
  obtain ⟨n, l⟩ := t
  obtain ⟨d, h⟩ := h
  exact ⟨d, valid_arg h hx⟩
theorem fr_app {s : List Bd} (h : Inv s) (t : Tm) : Fr s (appT s t) := by
  intro w hw hb
  rw [app_sub h.1.2.1] at hw
  obtain ⟨z, _, hzv, hwz⟩ := leaves_sub hb t hw
  unfold asF at hwz
  cases hl : lookS s z with
  | none =>
    rw [hl] at hwz
    have : w = z := by simpa [leavesT] using hwz
    rw [this]; exact hl
  | some u =>
    rw [hl] at hwz
    exact h.2.1 _ (UniY.look_mem hl) w hwz hb
theorem app_free {s : List Bd} (hV : ∀ b ∈ s, varB b.1 = true) {t : Tm} (h : Fr s t) : appT s t = t := by
  rw [app_sub hV]
  exact sub_id t fun v hv hb => by unfold asF; rw [h v hv hb]; rfl
theorem fr_arg {s : List Bd} {t x : Tm} (h : Fr s t) (hx : x ∈ t.args) : Fr s x := by
  obtain ⟨n, l⟩ := t
  exact fun w hw hb => h w (leaf_arg hx hw) hb
theorem occ_iff {v : ByteArray} (hv : varB v = true) {t : Tm} : occB v t = true ↔ v ∈ leavesT t := by
  unfold occB
  rw [List.any_eq_true]
  constructor
  · rintro ⟨x, hx, he⟩
    rw [Bool.and_eq_true, eqB_iff] at he
    rw [← he.2]
    exact hx
  · intro h
    exact ⟨v, h, by rw [hv, eqB_iff.2 rfl]; rfl⟩
theorem map_srt {s : List Bd} (h : Srt s) (f : Bd → Tm) : Srt (s.map fun x => (x.1, f x)) := by
  intro i j x y hij hx hy
  rw [List.getElem?_map] at hx hy
  cases hxi : s[i]? with
  | none => rw [hxi] at hx; cases hx
  | some x0 =>
    cases hyj : s[j]? with
    | none => rw [hyj] at hy; cases hy
    | some y0 =>
      rw [hxi] at hx
      rw [hyj] at hy
      simp only [Option.map_some, Option.some.injEq] at hx hy
      subst hx hy
      exact h i j x0 y0 hij hxi hyj
abbrev Bnd4 (σ : Sb) : Prop := ∀ v, varB v = true → depthT (σ v) ≤ 4
theorem bind_ok {s : List Bd} (hI : Inv s) {v : ByteArray} {t : Tm} (hv : varB v = true) (hn : lookS s v = none) (hfr : Fr s t) (hwf : Wf t) (hne : t ≠ .mk v []) (hor : isV t = true → ltB t.nm v = true) :
    (∀ s', bindR s v t = some s' → Inv s' ∧ s'.length = s.length + 1 ∧ (∀ σ, Solves σ s' ↔ Solves σ s ∧ σ v = subT σ t) ∧ ∀ x ∈ s', x.1 = v ∨ ∃ y ∈ s, x.1 = y.1) ∧ (bindR s v t = none → ∀ σ, Bnd4 σ → Solves σ s → σ v ≠ subT σ t) := by
  obtain ⟨⟨i1, i2, i3, i4⟩, i5, i6⟩ := hI
  unfold bindR
  by_cases h1 : (occB v t || deepB t) = true
  · rw [if_pos h1]
    refine ⟨fun s' h => by (cases h), fun _ σ hb _ e => ?_⟩
    rw [Bool.or_eq_true] at h1
    rcases h1 with h1 | h1
    · rw [occ_iff hv] at h1
      have hf : isV t = false := by
        cases hh : isV t
        · rfl
        · obtain ⟨e1, _⟩ := isv_args hh
          rw [e1] at h1
          have : v = t.nm := by simpa [leavesT] using h1
          rw [← this] at e1
          exact absurd e1 hne
      exact occurs_no σ hv h1 hf e
    · unfold deepB at h1
      rw [decide_eq_true_iff] at h1
      have := depth_sub σ t
      have := hb v hv
      rw [e] at this
      omega
  · rw [if_neg h1]
    rw [Bool.or_eq_true, not_or] at h1
    obtain ⟨h1, h2⟩ := h1
    have hvt : v ∉ leavesT t := fun h => h1 ((occ_iff hv).2 h)
    have hdt : depthT t ≤ 4 := by
      unfold deepB at h2
      rw [decide_eq_true_iff] at h2
      omega
    -- what the one binding makes of a term, for a substitution that keeps it
    have hone : ∀ {σ : Sb}, σ v = subT σ t → ∀ x, subT σ (appT (oneS v t) x) = subT σ x := fun e x =>
      solves_app (one_var hv) (fun y hy => by obtain rfl := List.mem_singleton.1 hy; exact e.symm) x
    by_cases h3 : (s.any fun x => deepB (appT (oneS v t) x.2)) = true
    · rw [if_pos h3]
      refine ⟨fun s' h => by (cases h), fun _ σ hb hs e => ?_⟩
      rw [List.any_eq_true] at h3
      obtain ⟨x, hx, hd⟩ := h3
      unfold deepB at hd
      rw [decide_eq_true_iff] at hd
      have a1 := depth_sub σ (appT (oneS v t) x.2)
      rw [hone e, hs x hx] at a1
      have a2 := hb x.1 (i2 x hx)
      omega
    · rw [if_neg h3]
      refine ⟨fun s' h => ?_, fun h => by cases h⟩
      have hd : ∀ x ∈ s, depthT (appT (oneS v t) x.2) ≤ 4 := by
        intro x hx
        apply Classical.byContradiction
        intro hc
        exact h3 (List.any_eq_true.2 ⟨x, hx, by unfold deepB; rw [decide_eq_true_iff]; omega⟩)
      injection h with h
      subst h
      -- the elements
      have mem : ∀ {y : Bd}, y ∈ putS (v, t) (s.map fun x => (x.1, appT (oneS v t) x.2)) ↔ y = (v, t) ∨ ∃ x ∈ s, y = (x.1, appT (oneS v t) x.2) := by
        intro y
        rw [put_mem, List.mem_map]
        constructor
        · rintro (h | ⟨x, hx, rfl⟩)
          · exact Or.inl h
          · exact Or.inr ⟨x, hx, rfl⟩
        · rintro (h | ⟨x, hx, rfl⟩)
          · exact Or.inl h
          · exact Or.inr ⟨x, hx, rfl⟩
      have bound : ∀ {x : Bd}, x ∈ s → lookS s x.1 ≠ none := fun {x} hx h => look_none.1 h x hx rfl
      have wv : validT false 4 t = true := by obtain ⟨d, h⟩ := hwf; exact valid_at h hdt
      have wu : ∀ x ∈ s, validT false 4 (appT (oneS v t) x.2) = true := by
        intro x hx
        have : Wf (appT (oneS v t) x.2) := by
          rw [app_sub (one_var hv)]
          refine wf_sub (k := 4) (fun w hw => asF_valid (by omega) (fun y hy => ?_) hw) ⟨4, i3 x hx⟩
          obtain rfl := List.mem_singleton.1 hy
          exact wv
        obtain ⟨d, h⟩ := this
        exact valid_at h (hd x hx)
      -- no leaf of the new terms is bound
      have free : ∀ w, varB w = true → w ≠ v → lookS s w = none → lookS (putS (v, t) (s.map fun x => (x.1, appT (oneS v t) x.2))) w = none := by
        intro w _ hwv hl
        refine look_none.2 fun y hy e => ?_
        rcases mem.1 hy with rfl | ⟨x, hx, rfl⟩
        · exact hwv e.symm
        · exact look_none.1 hl x hx e
      refine ⟨⟨⟨?_, fun y hy => ?_, fun y hy => ?_, fun y hy => ?_⟩, fun y hy => ?_, fun y hy => ?_⟩, by rw [put_len, List.length_map], fun σ => ?_, fun y hy => ?_⟩
      · refine put_srt v t _ (map_srt i1 _) (look_none.2 fun y hy e => ?_)
        obtain ⟨x, hx, rfl⟩ := List.mem_map.1 hy
        exact look_none.1 hn x hx e
      · rcases mem.1 hy with rfl | ⟨x, hx, rfl⟩
        · exact hv
        · exact i2 x hx
      · rcases mem.1 hy with rfl | ⟨x, hx, rfl⟩
        · exact wv
        · exact wu x hx
      · rcases mem.1 hy with rfl | ⟨x, hx, rfl⟩
        · exact hne
        · intro e
          simp only at e
          have hx1 := i2 x hx
          have hl : x.1 ∈ leavesT (appT (oneS v t) x.2) := by rw [e]; simp [leavesT]
          rcases leaves_one hv hx1 hl with h | ⟨h, _⟩
          · exact bound hx (hfr _ h hx1)
          · exact bound hx (i5 x hx _ h hx1)
      · rcases mem.1 hy with rfl | ⟨x, hx, rfl⟩
        · intro w hw hb
          exact free w hb (fun e => hvt (e ▸ hw)) (hfr w hw hb)
        · intro w hw hb
          rcases leaves_one hv hb hw with h | ⟨h, hwv⟩
          · exact free w hb (fun e => hvt (e ▸ h)) (hfr w h hb)
          · exact free w hb hwv (i5 x hx w h hb)
      · rcases mem.1 hy with rfl | ⟨x, hx, rfl⟩
        · exact hor
        · intro hu
          simp only at hu ⊢
          cases hxv : isV x.2
          · exfalso
            rw [app_sub (one_var hv), sub_fun' _ _ hxv] at hu
            have : isV (.mk x.2.nm (x.2.args.map (subT (asF (oneS v t))))) = isV x.2 := isv_same rfl (by simp [Tm.args])
            rw [this, hxv] at hu
            cases hu
          · obtain ⟨e1, hb⟩ := isv_args hxv
            have ho := i6 x hx hxv
            have e2 : appT (oneS v t) x.2 = if x.2.nm = v then t else x.2 := by
              rw [app_sub (one_var hv)]
              conv => lhs; rw [e1]
              rw [sub_var _ hb, one_asF, ← e1]
            rw [e2] at hu ⊢
            by_cases hxn : x.2.nm = v
            · rw [if_pos hxn] at hu ⊢
              rw [hxn] at ho
              exact ltB_trans (hor hu) ho
            · rw [if_neg hxn]
              exact ho
      · constructor
        · intro h
          have e : σ v = subT σ t := (h (v, t) (mem.2 (Or.inl rfl))).symm
          refine ⟨fun x hx => ?_, e⟩
          rw [← hone e x.2]
          exact h _ (mem.2 (Or.inr ⟨x, hx, rfl⟩))
        · rintro ⟨h, e⟩ y hy
          rcases mem.1 hy with rfl | ⟨x, hx, rfl⟩
          · exact e.symm
          · simp only
            rw [hone e, h x hx]
      · rcases mem.1 hy with rfl | ⟨x, hx, rfl⟩
        · exact Or.inl rfl
        · exact Or.inr ⟨x, hx, rfl⟩
end UnuE
end Go.Proofs.YtjfgnmmcdgpiiaaGreatDoor
/- The reference's Unify: what solve leaves, that it ends, and that its answer is the code's. No conditions. -/
namespace Go.Proofs.YtjfgnmmcdgpiiaaGreatDoor
open Go
namespace UnuF
open LexM TermM TermU1 TermE UniM UniA UniC UniG UniH UniO UniP UniY UnmA UnmE UnnC UnuA UnuB UnuC UnuD UnuE
def VarsIn (vs : List ByteArray) (t : Tm) : Prop := ∀ w ∈ leavesT t, varB w = true → w ∈ vs
def KeysIn (vs : List ByteArray) (s : List Bd) : Prop := ∀ x ∈ s, x.1 ∈ vs ∧ VarsIn vs x.2
/-- What a step leaves: a substitution that solves two lists of terms, or none can. -/
def StepOk (s : List Bd) (P : Sb → Prop) (o : Option (List Bd)) : Prop :=
  (∀ s', o = some s' → Inv s' ∧ (s' = s ∨ s.length < s'.length) ∧ (∀ σ, Solves σ s' ↔ Solves σ s ∧ P σ) ∧ ∀ x ∈ s, ∃ y ∈ s', x.1 = y.1) ∧ (o = none → ∀ σ, Bnd4 σ → Solves σ s → ¬ P σ)
theorem step_iff {s : List Bd} {P Q : Sb → Prop} {o : Option (List Bd)} (h : StepOk s P o) (e : ∀ σ, Solves σ s → (P σ ↔ Q σ)) : StepOk s Q o := by
  refine ⟨fun s' hs => ?_, fun ho σ hb hs hq => h.2 ho σ hb hs ((e σ hs).2 hq)⟩
  obtain ⟨h1, h2, h3, h4⟩ := h.1 s' hs
  exact ⟨h1, h2, fun σ => by rw [h3]; exact ⟨fun k => ⟨k.1, (e σ k.1).1 k.2⟩, fun k => ⟨k.1, (e σ k.1).2 k.2⟩⟩, h4⟩
theorem step_id {s : List Bd} (hI : Inv s) {P : Sb → Prop} (h : ∀ σ, Solves σ s → P σ) : StepOk s P (some s) :=
  ⟨fun s' e => by injection e with e; subst e; exact ⟨hI, Or.inl rfl, fun σ => ⟨fun k => ⟨k, h σ k⟩, fun k => k.1⟩, fun x hx => ⟨x, hx, rfl⟩⟩, fun e => by cases e⟩
theorem solveL_ok {f : Tm → Tm → List Bd → Option (Option (List Bd))} (H : ∀ a b s o, f a b s = some o → Inv s → Wf a → Wf b → StepOk s (fun σ => subT σ a = subT σ b) o) :
    ∀ xs ys s o, xs.length = ys.length → solveL f xs ys s = some o → Inv s → (∀ x ∈ xs, Wf x) → (∀ y ∈ ys, Wf y) → StepOk s (fun σ => xs.map (subT σ) = ys.map (subT σ)) o
  | [], [], s, o, _, e, hI, _, _ => by
    simp only [solveL, Option.some.injEq] at e
    subst e
    exact step_id hI fun _ _ => rfl
  | [], _ :: _, _, _, hl, _, _, _, _ => by simp at hl
  | _ :: _, [], _, _, hl, _, _, _, _ => by simp at hl
  | x :: xs, y :: ys, s, o, hl, e, hI, hx, hy => by
    unfold solveL at e
    cases he : f x y s with
    | none => rw [he] at e; cases e
    | some z =>
      rw [he] at e
      have h1 := H x y s z he hI (hx x (by simp)) (hy y (by simp))
      cases z with
      | none =>
        simp only [Option.some.injEq] at e
        subst e
        refine ⟨fun s' h => by (cases h), fun _ σ hb hs h => ?_⟩
        dsimp only at h
        rw [List.map_cons, List.map_cons] at h
        injection h with h _
        exact h1.2 rfl σ hb hs h
      | some s1 =>
        obtain ⟨g1, g2, g3, g4⟩ := h1.1 s1 rfl
        have h2 := solveL_ok H xs ys s1 o (by simpa using hl) e g1 (fun z hz => hx z (by simp [hz])) (fun z hz => hy z (by simp [hz]))
        refine ⟨fun s' hs => ?_, fun ho σ hb hs h => ?_⟩
        · obtain ⟨k1, k2, k3, k4⟩ := h2.1 s' hs
          refine ⟨k1, ?_, fun σ => ?_, fun x hx => ?_⟩
          · rcases g2 with rfl | g2
            · exact k2
            · rcases k2 with rfl | k2
              · exact Or.inr g2
              · exact Or.inr (by omega)
          · rw [k3, g3]
            dsimp only
            rw [List.map_cons, List.map_cons]
            constructor
            · rintro ⟨⟨a, b⟩, c⟩; exact ⟨a, by rw [b, c]⟩
            · rintro ⟨a, b⟩
              injection b with b c
              exact ⟨⟨a, b⟩, c⟩
          · obtain ⟨y, hy, e1⟩ := g4 x hx
            obtain ⟨z, hz, e2⟩ := k4 y hy
            exact ⟨z, hz, e1.trans e2⟩
        · dsimp only at h
          rw [List.map_cons, List.map_cons] at h
          injection h with h h'
          exact h2.2 ho σ hb ((g3 σ).2 ⟨hs, h⟩) h'
theorem bind_step {s : List Bd} (hI : Inv s) {a t : Tm} (hv : isV a = true) (hfa : Fr s a) (hft : Fr s t) (hwf : Wf t) (hne : t ≠ a) (hor : isV t = true → ltB t.nm a.nm = true) : StepOk s (fun σ => subT σ a = subT σ t) (bindR s a.nm t) := by
  obtain ⟨e1, hb⟩ := isv_args hv
  have hn : lookS s a.nm = none := hfa a.nm (by rw [e1]; simp [leavesT, Tm.nm]) hb
  obtain ⟨h1, h2⟩ := bind_ok hI hb hn hft hwf (by rw [← e1]; exact hne) hor
  have e : ∀ σ : Sb, subT σ a = σ a.nm := fun σ => by
    conv => lhs; rw [e1]
    exact sub_var σ hb
  refine ⟨fun s' hs => ?_, fun ho σ hb4 hs => ?_⟩
  · obtain ⟨k1, k2, k3, _⟩ := h1 s' hs
    refine ⟨k1, Or.inr (by omega), fun σ => by (rw [k3]; dsimp only; rw [e]), fun x hx => ?_⟩
    -- a binding of before is a binding still
    unfold bindR at hs
    split at hs
    · cases hs
    · split at hs
      · cases hs
      · injection hs with hs
        subst hs
        exact ⟨_, put_mem.2 (Or.inr (List.mem_map_of_mem hx)), rfl⟩
  · dsimp only
    rw [e]
    exact h2 ho σ hb4 hs
theorem solveB_ok {f : Tm → Tm → List Bd → Option (Option (List Bd))} (H : ∀ a b s o, f a b s = some o → Inv s → Wf a → Wf b → StepOk s (fun σ => subT σ a = subT σ b) o) {a b : Tm} {s : List Bd} {o : Option (List Bd)} (h : solveB f a b s = some o) (hI : Inv s) (ha : Wf a) (hb : Wf b) (fa : Fr s a) (fb : Fr s b) : StepOk s (fun σ => subT σ a = subT σ b) o := by
  unfold solveB at h
  by_cases hz : cmpT a b = 0
  · rw [if_pos hz] at h
    simp only [Option.some.injEq] at h
    subst h
    exact step_id hI fun σ _ => by rw [(cmp_zero a b).1 hz]
  · rw [if_neg hz] at h
    have hne : a ≠ b := fun e => hz ((cmp_zero a b).2 e)
    by_cases h1 : (isV a && isV b && ltB a.nm b.nm) = true
    · rw [if_pos h1] at h
      rw [Bool.and_eq_true, Bool.and_eq_true] at h1
      obtain ⟨⟨va, vb⟩, hlt⟩ := h1
      simp only [Option.some.injEq] at h
      subst h
      exact step_iff (bind_step hI vb fb fa ha hne fun _ => hlt) fun σ _ => ⟨fun e => e.symm, fun e => e.symm⟩
    · rw [if_neg h1] at h
      by_cases h2 : isV a = true
      · rw [if_pos h2] at h
        simp only [Option.some.injEq] at h
        subst h
        refine bind_step hI h2 fa fb hb (fun e => hne e.symm) fun vb => ?_
        have hlt : ltB a.nm b.nm = false := by
          cases hh : ltB a.nm b.nm
          · rfl
          · rw [h2, vb, hh] at h1
            exact absurd rfl h1
        exact ltB_tri hlt fun e => hne (by rw [(isv_args h2).1, (isv_args vb).1, e])
      · rw [if_neg h2] at h
        have va : isV a = false := by simpa using h2
        by_cases h3 : isV b = true
        · rw [if_pos h3] at h
          simp only [Option.some.injEq] at h
          subst h
          exact step_iff (bind_step hI h3 fb fa ha hne fun hv => by rw [va] at hv; cases hv) fun σ _ => ⟨fun e => e.symm, fun e => e.symm⟩
        · rw [if_neg h3] at h
          have vb : isV b = false := by simpa using h3
          by_cases h4 : headE a b = true
          · rw [if_pos h4] at h
            obtain ⟨e1, e2⟩ := (head_iff a b).1 h4
            refine step_iff (solveL_ok H a.args b.args s o e2 h hI (fun x hx => wf_arg ha hx) (fun x hx => wf_arg hb hx)) fun σ _ => ?_
            rw [sub_fun' σ a va, sub_fun' σ b vb, e1]
            simp
          · rw [if_neg h4] at h
            simp only [Option.some.injEq] at h
            subst h
            refine ⟨fun s' e => by (cases e), fun _ σ _ _ e => ?_⟩
            dsimp only at e
            rw [sub_fun' σ a va, sub_fun' σ b vb] at e
            injection e with e1 e2
            have e3 := congrArg List.length e2
            simp only [List.length_map] at e3
            exact h4 ((head_iff a b).2 ⟨e1, e3⟩)
theorem solve_ok : ∀ n a b s o, solveP n a b s = some o → Inv s → Wf a → Wf b → StepOk s (fun σ => subT σ a = subT σ b) o
  | 0, _, _, _, _, h, _, _, _ => by cases h
  | n + 1, a, b, s, o, h, hI, ha, hb => by
    rw [solveP] at h
    refine step_iff (solveB_ok (solve_ok n) h hI (wf_app hI.1 ha) (wf_app hI.1 hb) (fr_app hI a) (fr_app hI b)) fun σ hs => ?_
    rw [solves_app hI.1.2.1 hs, solves_app hI.1.2.1 hs]
/-! ### It ends -/
theorem keys_len {vs : List ByteArray} {s : List Bd} (h : Srt s) (hk : ∀ x ∈ s, x.1 ∈ vs) : s.length ≤ vs.length := by
  have h1 : (lists (s.map (·.1))).Nodup := by
    unfold lists
    rw [List.map_map, List.nodup_iff_pairwise_ne, List.pairwise_map, List.pairwise_iff_getElem]
    intro i j hi hj hij e
    have h2 := h i j _ _ hij (List.getElem?_eq_getElem hi) (List.getElem?_eq_getElem hj)
    have := (lex_zero s[i].1.data.toList s[j].1.data.toList).2 e
    omega
  have h2 := nodup_len _ (lists vs) h1 fun x hx => by
    unfold lists at hx ⊢
    obtain ⟨y, hy, rfl⟩ := List.mem_map.1 hx
    obtain ⟨z, hz, rfl⟩ := List.mem_map.1 hy
    exact List.mem_map_of_mem (hk z hz)
  simpa [lists] using h2
theorem vars_arg {vs : List ByteArray} {t x : Tm} (h : VarsIn vs t) (hx : x ∈ t.args) : VarsIn vs x := by
  obtain ⟨n, l⟩ := t
  exact fun w hw hb => h w (leaf_arg hx hw) hb
theorem vars_app {vs : List ByteArray} {s : List Bd} (hV : ∀ b ∈ s, varB b.1 = true) (hk : KeysIn vs s) {t : Tm} (h : VarsIn vs t) : VarsIn vs (appT s t) := by
  intro w hw hb
  rw [app_sub hV] at hw
  obtain ⟨z, hz, hzv, hwz⟩ := leaves_sub hb t hw
  unfold asF at hwz
  cases hl : lookS s z with
  | none =>
    rw [hl] at hwz
    have : w = z := by simpa [leavesT] using hwz
    rw [this]
    exact h z hz hzv
  | some u =>
    rw [hl] at hwz
    exact (hk _ (UniY.look_mem hl)).2 w hwz hb
theorem bind_keys {vs : List ByteArray} {s s' : List Bd} {v : ByteArray} {t : Tm} (hv : varB v = true) (hm : v ∈ vs) (ht : VarsIn vs t) (hk : KeysIn vs s) (h : bindR s v t = some s') : KeysIn vs s' := by
  unfold bindR at h
  split at h
  · cases h
  · split at h
    · cases h
    · injection h with h
      subst h
      intro y hy
      rcases put_mem.1 hy with rfl | hy
      · exact ⟨hm, ht⟩
      · obtain ⟨x, hx, rfl⟩ := List.mem_map.1 hy
        refine ⟨(hk x hx).1, fun w hw hb => ?_⟩
        rcases leaves_one hv hb hw with h | ⟨h, _⟩
        · exact ht w h hb
        · exact (hk x hx).2 w h hb
theorem solveL_keys {vs : List ByteArray} {f : Tm → Tm → List Bd → Option (Option (List Bd))} (H : ∀ a b s s', f a b s = some (some s') → Inv s → Wf a → Wf b → VarsIn vs a → VarsIn vs b → KeysIn vs s → Inv s' ∧ KeysIn vs s') :
    ∀ xs ys s s', solveL f xs ys s = some (some s') → Inv s → (∀ x ∈ xs, Wf x ∧ VarsIn vs x) → (∀ y ∈ ys, Wf y ∧ VarsIn vs y) → KeysIn vs s → KeysIn vs s'
  | [], _, s, s', e, _, _, _, hk => by simp only [solveL, Option.some.injEq] at e; subst e; exact hk
  | _ :: _, [], s, s', e, _, _, _, hk => by simp only [solveL, Option.some.injEq] at e; subst e; exact hk
  | x :: xs, y :: ys, s, s', e, hI, hx, hy, hk => by
    unfold solveL at e
    cases he : f x y s with
    | none => rw [he] at e; cases e
    | some z =>
      rw [he] at e
      cases z with
      | none => cases e
      | some s1 =>
        obtain ⟨g1, g2⟩ := H x y s s1 he hI (hx x (by simp)).1 (hy y (by simp)).1 (hx x (by simp)).2 (hy y (by simp)).2 hk
        exact solveL_keys H xs ys s1 s' e g1 (fun z hz => hx z (by simp [hz])) (fun z hz => hy z (by simp [hz])) g2
theorem nm_in {vs : List ByteArray} {t : Tm} (h : VarsIn vs t) (hv : isV t = true) : t.nm ∈ vs := by
  obtain ⟨e, hb⟩ := isv_args hv
  exact h t.nm (by rw [e]; simp [leavesT, Tm.nm]) hb
theorem solve_keys {vs : List ByteArray} : ∀ n a b s s', solveP n a b s = some (some s') → Inv s → Wf a → Wf b → VarsIn vs a → VarsIn vs b → KeysIn vs s → Inv s' ∧ KeysIn vs s'
  | 0, _, _, _, _, h, _, _, _, _, _, _ => by cases h
  | n + 1, a, b, s, s', h, hI, ha, hb, va, vb, hk => by
    refine ⟨((solve_ok (n + 1) a b s _ h hI ha hb).1 s' rfl).1, ?_⟩
    rw [solveP] at h
    have wa := wf_app hI.1 ha
    have wb := wf_app hI.1 hb
    replace va := vars_app hI.1.2.1 hk va
    replace vb := vars_app hI.1.2.1 hk vb
    generalize appT s a = a at *
    generalize appT s b = b at *
    unfold solveB at h
    split at h
    · simp only [Option.some.injEq] at h
      subst h
      exact hk
    · split at h
      · next c =>
        rw [Bool.and_eq_true, Bool.and_eq_true] at c
        simp only [Option.some.injEq] at h
        exact bind_keys (isv_args c.1.2).2 (nm_in vb c.1.2) va hk h
      · split at h
        · next c =>
          simp only [Option.some.injEq] at h
          exact bind_keys (isv_args c).2 (nm_in va c) vb hk h
        · split at h
          · next c =>
            simp only [Option.some.injEq] at h
            exact bind_keys (isv_args c).2 (nm_in vb c) va hk h
          · split at h
            · exact solveL_keys (solve_keys n) a.args b.args s s' h hI (fun x hx => ⟨wf_arg wa hx, vars_arg va hx⟩) (fun x hx => ⟨wf_arg wb hx, vars_arg vb hx⟩) hk
            · cases h
/-- Terms, and what is solved so far, that some variables are enough for. -/
def Gd (vs : List ByteArray) (s : List Bd) : Prop := Inv s ∧ KeysIn vs s
def Tg (vs : List ByteArray) (t : Tm) : Prop := Wf t ∧ VarsIn vs t
def Ends (a b : Tm) (s : List Bd) : Prop := ∃ n o, solveP n a b s = some o
theorem ends_list {vs : List ByteArray} (s : List Bd) (hs : Gd vs s) (z : Nat) (H1 : ∀ x y, Tg vs x → Tg vs y → Fr s x → sizeT x < z → Ends x y s) (H2 : ∀ s1, Gd vs s1 → s.length < s1.length → ∀ x y, Tg vs x → Tg vs y → Ends x y s1) :
    ∀ xs ys s1, Gd vs s1 → (s1 = s ∨ s.length < s1.length) → (∀ x ∈ xs, Tg vs x ∧ Fr s x ∧ sizeT x < z) → (∀ y ∈ ys, Tg vs y) → ∃ n o, solveL (solveP n) xs ys s1 = some o
  | [], _, s1, _, _, _, _ => ⟨0, some s1, by simp [solveL]⟩
  | _ :: _, [], s1, _, _, _, _ => ⟨0, some s1, by simp [solveL]⟩
  | x :: xs, y :: ys, s1, hg, hor, hx, hy => by
    obtain ⟨t1, t2, t3⟩ := hx x (by simp)
    have ty := hy y (by simp)
    have h1 : Ends x y s1 := by
      rcases hor with rfl | h
      · exact H1 x y t1 ty t2 t3
      · exact H2 s1 hg h x y t1 ty
    obtain ⟨n, o, e⟩ := h1
    cases o with
    | none => exact ⟨n, none, by unfold solveL; rw [e]⟩
    | some s2 =>
      have k1 := (solve_ok n x y s1 _ e hg.1 t1.1 ty.1).1 s2 rfl
      have k2 := solve_keys n x y s1 s2 e hg.1 t1.1 ty.1 t1.2 ty.2 hg.2
      obtain ⟨m, o, e2⟩ := ends_list s hs z H1 H2 xs ys s2 ⟨k2.1, k2.2⟩ (by
        rcases hor with rfl | h
        · exact k1.2.1
        · rcases k1.2.1 with rfl | h'
          · exact Or.inr h
          · exact Or.inr (by omega)) (fun q hq => hx q (by simp [hq])) (fun q hq => hy q (by simp [hq]))
      refine ⟨n + m, o, ?_⟩
      unfold solveL
      rw [solveP_mono (m := n + m) (by omega) e]
      exact solveL_mono (fun a b s o h => solveP_mono (m := n + m) (by omega) h) _ _ _ _ e2
theorem size_pos (t : Tm) : 0 < sizeT t := by
  obtain ⟨n, l⟩ := t
  simp [sizeT]
theorem ends_all (vs : List ByteArray) : ∀ (k : Nat) (s : List Bd), Gd vs s → vs.length - s.length ≤ k → ∀ (z : Nat) (a b : Tm), Tg vs a → Tg vs b → sizeT (appT s a) ≤ z → Ends a b s := by
  intro k
  induction k with
  | zero =>
    intro s hs hk z
    have noMore : ∀ s1, Gd vs s1 → s.length < s1.length → ∀ x y, Tg vs x → Tg vs y → Ends x y s1 := by
      intro s1 h1 hl
      have := keys_len h1.1.1.1 fun x hx => (h1.2 x hx).1
      omega
    induction z with
    | zero =>
      intro a b _ _ h
      have h0 := size_pos (appT s a)
      omega
    | succ z ihz =>
      intro a b ha hb hz
      obtain ⟨n, o, e⟩ := ends_list s hs (z + 1) (fun x y hx hy hf hl => ihz x y hx hy (by rw [app_free hs.1.1.2.1 hf]; omega)) noMore (appT s a).args (appT s b).args s hs (Or.inl rfl)
        (fun x hx => ⟨⟨wf_arg (wf_app hs.1.1 ha.1) hx, vars_arg (vars_app hs.1.1.2.1 hs.2 ha.2) hx⟩, fr_arg (fr_app hs.1 a) hx, by
          generalize appT s a = t at *
          obtain ⟨m, l⟩ := t
          have := sizeL_mem (show x ∈ l from hx)
          simp only [sizeT] at hz
          omega⟩)
        (fun y hy => ⟨wf_arg (wf_app hs.1.1 hb.1) hy, vars_arg (vars_app hs.1.1.2.1 hs.2 hb.2) hy⟩)
      refine ⟨n + 1, ?_⟩
      rw [solveP]
      unfold solveB
      repeat' split
      all_goals first | exact ⟨_, rfl⟩ | exact ⟨o, e⟩
  | succ k ih =>
    intro s hs hk z
    have more : ∀ s1, Gd vs s1 → s.length < s1.length → ∀ x y, Tg vs x → Tg vs y → Ends x y s1 := by
      intro s1 h1 hl x y hx hy
      exact ih s1 h1 (by omega) _ x y hx hy (Nat.le_refl _)
    induction z with
    | zero =>
      intro a b _ _ h
      have h0 := size_pos (appT s a)
      omega
    | succ z ihz =>
      intro a b ha hb hz
      obtain ⟨n, o, e⟩ := ends_list s hs (z + 1) (fun x y hx hy hf hl => ihz x y hx hy (by rw [app_free hs.1.1.2.1 hf]; omega)) more (appT s a).args (appT s b).args s hs (Or.inl rfl)
        (fun x hx => ⟨⟨wf_arg (wf_app hs.1.1 ha.1) hx, vars_arg (vars_app hs.1.1.2.1 hs.2 ha.2) hx⟩, fr_arg (fr_app hs.1 a) hx, by
          generalize appT s a = t at *
          obtain ⟨m, l⟩ := t
          have := sizeL_mem (show x ∈ l from hx)
          simp only [sizeT] at hz
          omega⟩)
        (fun y hy => ⟨wf_arg (wf_app hs.1.1 hb.1) hy, vars_arg (vars_app hs.1.1.2.1 hs.2 hb.2) hy⟩)
      refine ⟨n + 1, ?_⟩
      rw [solveP]
      unfold solveB
      repeat' split
      all_goals first | exact ⟨_, rfl⟩ | exact ⟨o, e⟩
/-! ### The reference's answer -/
theorem inv_nil : Inv [] := ⟨⟨fun i j x y _ h => by simp at h, fun _ h => by (cases h), fun _ h => by (cases h), fun _ h => by cases h⟩, fun _ h => by (cases h), fun _ h => by cases h⟩
/-- With fuel: nothing if that is too little. -/
def unifyR (n : Nat) (a b : Tm) : Option (Option (List Bd)) :=
  if (validT false 4 a && validT false 4 b) = false then some none else
    match solveP n a b [] with
    | none => none
    | some none => some none
    | some (some s) => some (if vldS s = true then some s else none)
theorem ref_spec {a b : Tm} (ha : V a) (hb : V b) : ∃ n o o', solveP n a b [] = some o' ∧ unifyR n a b = some o ∧ UnuD.Spec a b o := by
  have hg : Gd (leavesL [a, b]) [] := ⟨inv_nil, fun _ h => by cases h⟩
  have ta : Tg (leavesL [a, b]) a := ⟨⟨4, ha⟩, fun w hw _ => leaves_mem.2 ⟨a, by simp, hw⟩⟩
  have tb : Tg (leavesL [a, b]) b := ⟨⟨4, hb⟩, fun w hw _ => leaves_mem.2 ⟨b, by simp, hw⟩⟩
  obtain ⟨n, o, e⟩ := ends_all _ _ [] hg (Nat.le_refl _) _ a b ta tb (Nat.le_refl _)
  have hval : (validT false 4 a && validT false 4 b) = true := by rw [show validT false 4 a = true from ha, show validT false 4 b = true from hb]; rfl
  have hk := solve_ok n a b [] o e inv_nil ta.1 tb.1
  cases o with
  | none =>
    refine ⟨n, none, none, e, by unfold unifyR; rw [hval, if_neg (by decide), e], Or.inr ⟨rfl, fun σ hb4 => hk.2 rfl σ hb4 fun _ h => by cases h⟩⟩
  | some s =>
    obtain ⟨k1, _, k3, _⟩ := hk.1 s rfl
    obtain ⟨fine, hfr, hor⟩ := k1
    have hs : Solves (asF s) s := fun x hx => by
      rw [← app_sub fine.2.1, app_free fine.2.1 (hfr x hx)]
      exact ((asF_mem fine).1 hx).2.1
    have canon : Canon a b s := by
      refine ⟨fine, ((k3 _).1 hs).2, fun v hv => ?_, fun σ e2 v hv => ?_, fun v w hv hw e2 => ?_⟩
      · cases hl : lookS s v with
        | none =>
          have : asF s v = .mk v [] := by unfold asF; rw [hl]; rfl
          rw [this, sub_var _ hv, this]
        | some u =>
          have : asF s v = u := by unfold asF; rw [hl]; rfl
          rw [this, ← app_sub fine.2.1, app_free fine.2.1 (hfr _ (UniY.look_mem hl))]
      · have hs2 : Solves σ s := (k3 σ).2 ⟨fun _ h => by (cases h), e2⟩
        have := solves_app fine.2.1 hs2 (.mk v [])
        rw [app_sub fine.2.1, sub_var _ hv, sub_var _ hv] at this
        exact this
      · cases hl : lookS s v with
        | none =>
          have : asF s v = .mk v [] := by unfold asF; rw [hl]; rfl
          rw [this] at e2
          injection e2 with e2 _
          exact Or.inl e2.symm
        | some u =>
          have : asF s v = u := by unfold asF; rw [hl]; rfl
          rw [this] at e2
          have := hor _ (UniY.look_mem hl) (by rw [e2]; exact isv_mk hw)
          rw [e2] at this
          exact Or.inr this
    refine ⟨n, _, some s, e, by unfold unifyR; rw [hval, if_neg (by decide), e], Or.inl ⟨s, canon, ?_⟩⟩
    rw [fine_vld fine]
    by_cases hle : s.length ≤ 64 <;> simp [hle]
/-- Code and reference answer the same, whichever term comes first. -/
theorem unify_both (a b : Tm) : ∃ n m k o, unifyP n a b = some o ∧ unifyP m b a = some o ∧ unifyR k a b = some o ∧ (V a → V b → (∃ o', solveP k a b [] = some o') ∧ UnuD.Spec a b o) ∧ ((V a ∧ V b → False) → o = none) ∧ (V a → V b → ∀ D r, joinP n [] a b = some (D, r) → D.length ≤ sizeT a + sizeT b) ∧ (V a → V b → ∀ D r, joinP m [] b a = some (D, r) → D.length ≤ sizeT b + sizeT a) := by
  by_cases ha : V a
  · by_cases hb : V b
    · obtain ⟨n, o, e, hs, hl⟩ := code_spec ha hb
      obtain ⟨m, o2, e2, hs2, hl2⟩ := code_spec hb ha
      obtain ⟨k, o3, o', e', e3, hs3⟩ := ref_spec ha hb
      have h2 := spec_unique hs (spec_turn hs2)
      have h3 := spec_unique hs hs3
      subst h2 h3
      exact ⟨n, m, k, o, e, e2, e3, fun _ _ => ⟨⟨o', e'⟩, hs⟩, fun h => absurd ⟨ha, hb⟩ h, fun _ _ => hl, fun _ _ => hl2⟩
    · have h0 : validT false 4 b = false := by simpa using hb
      have e : (validT false 4 a && validT false 4 b) = false := by rw [h0, Bool.and_false]
      have e2 : (validT false 4 b && validT false 4 a) = false := by rw [h0, Bool.false_and]
      exact ⟨0, 0, 0, none, by unfold unifyP; rw [if_pos e], by unfold unifyP; rw [if_pos e2], by unfold unifyR; rw [if_pos e], fun _ h => absurd h hb, fun _ => rfl, fun _ h => absurd h hb, fun _ h => absurd h hb⟩
  · have h0 : validT false 4 a = false := by simpa using ha
    have e : (validT false 4 a && validT false 4 b) = false := by rw [h0, Bool.false_and]
    have e2 : (validT false 4 b && validT false 4 a) = false := by rw [h0, Bool.and_false]
    exact ⟨0, 0, 0, none, by unfold unifyP; rw [if_pos e], by unfold unifyP; rw [if_pos e2], by unfold unifyR; rw [if_pos e], fun h => absurd h ha, fun _ => rfl, fun h => absurd h ha, fun h => absurd h ha⟩
end UnuF
end Go.Proofs.YtjfgnmmcdgpiiaaGreatDoor
/- How large the reference's terms get while it solves; a valid unifier binds no fewer variables than the most general one. No conditions. -/
namespace Go.Proofs.YtjfgnmmcdgpiiaaGreatDoor
open Go
namespace UnuG
open LexM TermM TermU1 TermE UniM UniA UniC UniG UniH UniO UniP UniY UnmA UnmE UnnC UnuA UnuB UnuC UnuD UnuE UnuF
theorem size_valid {g : Bool} : ∀ {d : Nat} {t : Tm}, validT g d t = true → 3 * sizeT t + 1 ≤ 4 ^ d
  | 0, t, h => by simp [validT] at h
  | d + 1, .mk n l, h => by
    have hp : 1 ≤ 4 ^ d := Nat.one_le_pow _ _ (by decide)
    unfold validT at h
    split at h
    · next hl =>
      have : l = [] := by simpa using hl
      subst this
      simp only [sizeT, sizeL, Nat.pow_succ]
      omega
    · rw [Bool.and_eq_true, Bool.and_eq_true, List.all_eq_true, decide_eq_true_iff] at h
      obtain ⟨q, hq⟩ : ∃ q, 4 ^ d = q + 1 := ⟨4 ^ d - 1, by omega⟩
      have key : ∀ l : List Tm, (∀ x ∈ l, validT g d x = true) → 3 * sizeL l ≤ l.length * q := by
        intro l
        induction l with
        | nil => intro _; simp [sizeL]
        | cons a r ih =>
          intro hx
          have h1 := size_valid (hx a (by simp))
          have h2 := ih fun x hx' => hx x (by simp [hx'])
          simp only [sizeL, List.length_cons, Nat.succ_mul]
          omega
      have h1 := key l h.2
      have h2 : l.length * q ≤ 4 * q := Nat.mul_le_mul_right _ h.1.1
      simp only [sizeT, Nat.pow_succ, hq]
      omega
theorem size_8 {t : Tm} (h : validT false 8 t = true) : sizeT t ≤ 30000 := by
  have := size_valid h
  have e : (4 : Nat) ^ 8 = 65536 := by decide
  omega
/-- One substitution solves what the other one does. -/
def Ext (s s' : List Bd) : Prop := Inv s' ∧ ∀ σ, Solves σ s' → Solves σ s
theorem inv_self {s : List Bd} (h : Inv s) : Solves (asF s) s := fun x hx => by
  rw [← app_sub h.1.2.1, app_free h.1.2.1 (h.2.1 x hx)]
  exact ((asF_mem h.1).1 hx).2.1
theorem Ext.refl {s : List Bd} (h : Inv s) : Ext s s := ⟨h, fun _ k => k⟩
theorem Ext.trans {s s' s'' : List Bd} (h : Ext s s') (k : Ext s' s'') : Ext s s'' := ⟨k.1, fun σ e => h.2 σ (k.2 σ e)⟩
theorem Ext.of {s s' : List Bd} {P : Sb → Prop} (h : StepOk s P (some s')) : Ext s s' := ⟨(h.1 s' rfl).1, fun σ k => (((h.1 s' rfl).2.2.1 σ).1 k).1⟩
/-- What the substitution makes of the term it makes of a valid one, and so do those that extend it. -/
def Near (s : List Bd) (a : Tm) : Prop := ∃ x, V x ∧ ∀ s', Ext s s' → appT s' a = appT s' x
theorem Near.ext {s s' : List Bd} {a : Tm} (h : Near s a) (k : Ext s s') : Near s' a := by
  obtain ⟨x, hx, e⟩ := h
  exact ⟨x, hx, fun s'' k' => e s'' (k.trans k')⟩
theorem Near.of {s : List Bd} {a : Tm} (h : V a) : Near s a := ⟨a, h, fun _ _ => rfl⟩
theorem Near.valid {s : List Bd} {a : Tm} (h : Near s a) (hI : Inv s) : validT false 8 (appT s a) = true := by
  obtain ⟨x, hx, e⟩ := h
  rw [e s (Ext.refl hI), app_sub hI.1.2.1]
  exact valid_sub (k := 4) (fun v hv => asF_valid (by omega) hI.1.2.2.1 hv) hx
theorem Near.arg {s : List Bd} {a y : Tm} (h : Near s a) (hI : Inv s) (hy : y ∈ (appT s a).args) : Near s y := by
  obtain ⟨x, hx, e⟩ := h
  rw [e s (Ext.refl hI)] at hy
  obtain ⟨n, l⟩ := x
  cases hv : isV (.mk n l)
  · rw [app_same hI.1.2.1 n l hv] at hy
    obtain ⟨z, hz, rfl⟩ := List.mem_map.1 hy
    refine ⟨z, valid_arg hx hz, fun s' k => ?_⟩
    rw [app_sub k.1.1.2.1, app_sub k.1.1.2.1]
    exact solves_app hI.1.2.1 (k.2 _ (inv_self k.1)) z
  · obtain ⟨rfl, hn⟩ := isv_nil hv
    rw [app_sub hI.1.2.1, sub_var _ hn] at hy
    unfold asF at hy
    cases hl : lookS s n with
    | none => rw [hl] at hy; cases hy
    | some u =>
      rw [hl] at hy
      have hu := hI.1.2.2.1 _ (UniY.look_mem hl)
      obtain ⟨m, r⟩ := u
      exact Near.of (valid_arg hu hy)
theorem arg_size {t x : Tm} (h : x ∈ t.args) : sizeT x ≤ sizeT t := by
  obtain ⟨n, l⟩ := t
  have := sizeL_mem (show x ∈ l from h)
  simp only [sizeT]
  omega
/-- A valid unifier binds no fewer variables. -/
theorem most_len {a b : Tm} {s t : List Bd} (h : Canon a b s) (e : subT (asF t) a = subT (asF t) b) : s.length ≤ t.length := by
  classical
  obtain ⟨fine, _, hid, hmost, _⟩ := h
  -- which binding of the other one stands for a binding
  let f : Bd → ByteArray := fun x => if asF t x.1 = .mk x.1 [] then (asF s x.1).nm else x.1
  have hf : ∀ x ∈ s, (asF t x.1 = .mk x.1 [] → isV (asF s x.1) = true ∧ asF t (asF s x.1).nm = .mk x.1 [] ∧ (asF s x.1).nm ≠ x.1) := by
    intro x hx ht
    have h1 := hmost _ e x.1 (fine.2.1 x hx)
    rw [ht] at h1
    have hne := ((asF_mem fine).1 hx).2.2
    rw [((asF_mem fine).1 hx).2.1] at hne
    cases hv : isV (asF s x.1)
    · exfalso
      rw [sub_fun' _ _ hv] at h1
      injection h1 with e1 e2
      have e3 : (asF s x.1).args = [] := by simpa using e2
      have : isV (asF s x.1) = isV (.mk x.1 []) := isv_same e1 (by rw [e3]; rfl)
      rw [hv, isv_mk (fine.2.1 x hx)] at this
      cases this
    · obtain ⟨e1, hb⟩ := isv_args hv
      rw [e1, sub_var _ hb] at h1
      exact ⟨rfl, h1, fun e2 => hne (by rw [e1, e2])⟩
  have bound : ∀ {w : ByteArray}, asF t w ≠ .mk w [] → w ∈ t.map (·.1) := by
    intro w hw
    unfold asF at hw
    cases hl : lookS t w with
    | none => rw [hl] at hw; exact absurd rfl hw
    | some u => exact List.mem_map.2 ⟨_, UniY.look_mem hl, rfl⟩
  have hmem : ∀ x ∈ s, f x ∈ t.map (·.1) := by
    intro x hx
    show (if asF t x.1 = .mk x.1 [] then (asF s x.1).nm else x.1) ∈ _
    by_cases ht : asF t x.1 = .mk x.1 []
    · rw [if_pos ht]
      obtain ⟨_, h2, h3⟩ := hf x hx ht
      refine bound fun h => h3 ?_
      rw [h2] at h
      injection h with h _
      exact h.symm
    · rw [if_neg ht]
      exact bound ht
  have hinj : ∀ x ∈ s, ∀ y ∈ s, f x = f y → x.1 = y.1 := by
    intro x hx y hy hxy
    have hxy : (if asF t x.1 = .mk x.1 [] then (asF s x.1).nm else x.1) = (if asF t y.1 = .mk y.1 [] then (asF s y.1).nm else y.1) := hxy
    -- the name of a variable's term is kept, a bound one is not
    have clash : ∀ p ∈ s, ∀ q ∈ s, asF t q.1 = .mk q.1 [] → p.1 = (asF s q.1).nm → False := by
      intro p hp q hq ht hpq
      obtain ⟨hv, _, _⟩ := hf q hq ht
      obtain ⟨e1, hb⟩ := isv_args hv
      have h1 := hid q.1 (fine.2.1 q hq)
      rw [e1, sub_var _ hb, ← hpq] at h1
      have hne := ((asF_mem fine).1 hp).2.2
      rw [((asF_mem fine).1 hp).2.1] at hne
      exact hne h1
    by_cases hx' : asF t x.1 = .mk x.1 []
    · rw [if_pos hx'] at hxy
      by_cases hy' : asF t y.1 = .mk y.1 []
      · rw [if_pos hy'] at hxy
        have a1 := (hf x hx hx').2.1
        have a2 := (hf y hy hy').2.1
        rw [hxy, a2] at a1
        injection a1 with a1 _
        exact a1.symm
      · rw [if_neg hy'] at hxy
        exact (clash y hy x hx hx' hxy.symm).elim
    · rw [if_neg hx'] at hxy
      by_cases hy' : asF t y.1 = .mk y.1 []
      · rw [if_pos hy'] at hxy
        exact (clash x hx y hy hy' hxy).elim
      · rw [if_neg hy'] at hxy
        exact hxy
  have hnd : (lists (s.map f)).Nodup := by
    unfold lists
    rw [List.map_map, List.nodup_iff_pairwise_ne, List.pairwise_map, List.pairwise_iff_getElem]
    intro i j hi hj hij e
    have h1 := hinj _ (List.getElem_mem hi) _ (List.getElem_mem hj) (bytes_inj e)
    have h2 := fine.1 i j _ _ hij (List.getElem?_eq_getElem hi) (List.getElem?_eq_getElem hj)
    have := (lex_zero s[i].1.data.toList s[j].1.data.toList).2 (by rw [h1])
    omega
  have := nodup_len _ (lists (t.map (·.1))) hnd fun x hx => by
    unfold lists at hx ⊢
    obtain ⟨y, hy, rfl⟩ := List.mem_map.1 hx
    obtain ⟨z, hz, rfl⟩ := List.mem_map.1 hy
    exact List.mem_map_of_mem (hmem z hz)
  simpa [lists] using this
end UnuG
end Go.Proofs.YtjfgnmmcdgpiiaaGreatDoor
/- What UnifyMost asks, as plain facts. No conditions. -/
namespace Go.Proofs.YtjfgnmmcdgpiiaaGreatDoor
open Go
namespace UnuM
open LexM TermM TermU1 TermE UniM UniA UniC UniG UniH UniO UniP UniT UniY UnmA UnmE UnnC UnuA UnuB UnuC UnuD UnuE UnuF UnuG
theorem most_some {a b : Tm} {o : Option (List Bd)} (h : UnuD.Spec a b o) {s : List Bd} (e : o = some s) : Canon a b s ∧ s.length ≤ 64 := by
  rcases h with ⟨s', hc, h⟩ | ⟨h, _⟩
  · rw [e] at h
    by_cases hl : s'.length ≤ 64
    · rw [if_pos hl] at h
      injection h with h
      rw [h]
      exact ⟨hc, hl⟩
    · rw [if_neg hl] at h
      cases h
  · rw [e] at h
    cases h
theorem vld_bnd {t : List Bd} (ht : vldS t = true) : Bnd4 (asF t) := fun v _ => by
  unfold asF
  cases hl : lookS t v with
  | none => simp [depthT, depthL]
  | some u => exact valid_depth (vld_all ht _ (UniY.look_mem hl)).2
theorem most_ok {a b : Tm} {o : Option (List Bd)} (h : UnuD.Spec a b o) {t : List Bd} (ht : vldS t = true) (e : appT t a = appT t b) : ∃ s, o = some s := by
  have hV : ∀ b ∈ t, varB b.1 = true := fun b hb => (vld_all ht b hb).1
  rw [app_sub hV, app_sub hV] at e
  rcases h with ⟨s, hc, h⟩ | ⟨_, h⟩
  · have h1 := most_len hc e
    have h2 := (vld_srt ht).2
    exact ⟨s, by rw [h, if_pos (by omega)]⟩
  · exact absurd e (h _ (vld_bnd ht))
theorem most_uni {a b : Tm} {s : List Bd} (h : Canon a b s) : appT s a = appT s b ∧ appT s (appT s a) = appT s a := by
  have hV := h.1.2.1
  refine ⟨by rw [app_sub hV, app_sub hV]; exact h.2.1, ?_⟩
  rw [app_sub hV, app_sub hV, sub_comp]
  exact sub_congr a fun v _ hv => h.2.2.1 v hv
theorem most_inst {a b : Tm} {s t : List Bd} (h : Canon a b s) (ht : vldS t = true) (e : appT t a = appT t b) {v : ByteArray} (hv : varB v = true) : appT t (appT s (.mk v [])) = appT t (.mk v []) := by
  have hV : ∀ b ∈ t, varB b.1 = true := fun b hb => (vld_all ht b hb).1
  rw [app_sub hV, app_sub hV] at e
  rw [app_sub hV, app_sub hV, app_sub h.1.2.1, sub_var _ hv, sub_var _ hv]
  exact h.2.2.2.1 _ e v hv
theorem most_size {a b : Tm} {s : List Bd} (h : Canon a b s) : vldS s = true ∨ 64 < s.length := by
  rw [fine_vld h.1]
  by_cases hl : s.length ≤ 64
  · left; simpa using hl
  · right; omega
end UnuM
end Go.Proofs.YtjfgnmmcdgpiiaaGreatDoor
/- The reference's occurs and bind. Conditions: valid terms; at most a thousand bindings. -/
namespace Go.Proofs.YtjfgnmmcdgpiiaaGreatDoor
open Go Go.RowKit
namespace UnuH
open LexM TermM TermI Kit TermN TermU UniK UniM UniA UniC UniD UniE UniG UniH UniJ UniO UniL UniR UniY UnuA UnuE UnuF UnuG
theorem occ_var (v : ByteArray) {n : ByteArray} (h : varB n = true) : occB v (.mk n []) = eqB n v := by simp [occB, leavesT, h]
theorem occ_fun (v : ByteArray) {n : ByteArray} {l : List Tm} (h : isV (.mk n l) = false) : occB v (.mk n l) = l.any (occB v) := by
  cases l with
  | nil =>
    have hn : varB n = false := by
      cases hn : varB n
      · rfl
      · rw [isv_mk hn] at h; cases h
    simp [occB, leavesT, hn]
  | cons a r =>
    unfold occB
    rw [leaves_fun n (by simp)]
    have : ∀ l : List Tm, (leavesL l).any (fun n => varB n && eqB n v) = l.any fun t => (leavesT t).any fun n => varB n && eqB n v := by
      intro l
      induction l with
      | nil => rfl
      | cons x l ih => rw [leavesL, List.any_append, List.any_cons, ih]
    exact this _
theorem any_take {p : Tm → Bool} {l : List Tm} {k : Nat} {x : Tm} (h : l[k]? = some x) : (l.take (k + 1)).any p = ((l.take k).any p || p x) := by
  rw [take_get l k x h, List.any_append]
  simp
theorem any_hit {p : Tm → Bool} {l : List Tm} {k : Nat} {x : Tm} (h : l[k]? = some x) (hp : p x = true) : l.any p = true :=
  List.any_eq_true.2 ⟨x, List.mem_of_getElem? h, hp⟩
set_option maxRecDepth 100000 in
set_option maxHeartbeats 3200000 in
theorem occ_any (v : ByteArray) (t : Tm) : ∀ (B : Nat) (w : World) (tv : Value), B ≤ w.heap.size → SlIn (· < B) w t.args tv → t.nm.size ≤ maxLen →
    Calls Tryz.prog 123 #[.string v, .agg #[.string t.nm, tv]] w fun e w' => e = .returned (.bool (occB v t)) ∧ Gr w w' := by
  induction t using Tm.ind with
  | h n l ih =>
    intro B w tv hB ht htn
    dsimp only [Tm.args, Tm.nm] at ht htn ⊢
    obtain ⟨p1, c1, rfl, _, hlc, hcm, hTR⟩ := ht.row
    have h63 : l.length ≤ 9223372036854775807 := by unfold maxLen at hcm; omega
    clear hlc hcm
    obtain ⟨W2, hW2⟩ : ∃ W2, W2 = w.alloc (.cells #[.string n, .slice p1 l.length c1] 27) := ⟨_, rfl⟩
    have G2 : Hid (Gr w W2) := Lib.hid (by rw [hW2]; exact Gr.alloc _ _)
    have H2 : Hid (Has W2 w.heap.size #[.string n, .slice p1 l.length c1]) := Lib.hid (by rw [hW2]; exact Has.new _ _ _)
    have CV := Lib.hid (fun w' => rvar_t (.mk n l) p1 c1 w' htn)
    have IH : Hid (∀ x ∈ l, ∀ (w' : World) (v1 : Value), Below w.heap.size w w' → SlIn (· < B) w' x.args v1 → x.nm.size ≤ maxLen → Calls Tryz.prog 123 #[.string v, .agg #[.string x.nm, v1]] w' fun e w'' => e = .returned (.bool (occB v x)) ∧ Gr w' w'') :=
      Lib.hid (fun x hx w' v1 k h1 h2 => ih x hx B w' v1 (Nat.le_trans hB k.size) h1 h2)
    have HTR := Lib.hid hTR
    have HB := Lib.hid hB
    obtain ⟨y1, y2, y3, y4, y5⟩ := H2.out.two
    clear ih ht htn hTR hB
    dsimp only [Tm.nm, Tm.args] at CV
    cases hv : isV (.mk n l)
    · have EO : Hid (occB v (.mk n l) = l.any (occB v)) := Lib.hid (occ_fun v hv)
      rw [hv] at CV
      clear hv
      rw [EO.out]
      have AT := Lib.hid (fun k x (h : l[k]? = some x) => any_take (p := occB v) h)
      have AH := Lib.hid (fun k x (h : l[k]? = some x) hp => any_hit (p := occB v) h hp)
      have AE : Hid ((l.take l.length).any (occB v) = l.any (occB v)) := Lib.hid (by rw [List.take_length])
      clear EO
      generalize hla : l.length = a at *
      have HLA := Lib.hid hla
      clear hla
      go_enter Tryz.func123, Tryz.ntmps123
      go_upto_region 1 with fail
      rw [← hW2]
      clear hW2
      go_wp2_with fail
      refine (CV.out _).mono ?_
      rintro e w3 ⟨rfl, g3⟩
      have G3 := Lib.hid (G2.out.trans g3)
      have H3 := Lib.hid (H2.out.step0 g3.1)
      clear g3 G2 H2 CV y1 y2 y3 y4 y5
      obtain ⟨y1, y2, y3, y4, y5⟩ := H3.out.two
      go_wp2_with fail
      clear y1 y2 y3 y4 y5
      go_loopw [5] (fun i wr => ∃ (k : Nat), k ≤ a ∧ i = .int .i64 k ∧ Hid ((l.take k).any (occB v) = false) ∧ Hid (Gr w3 wr)) (fun i _ => a - (intOf i).toNat)
      case atStart => exact ⟨0, Nat.zero_le _, rfl, Lib.hid (by simp), Lib.hid (Gr.refl _)⟩
      case round =>
        obtain ⟨k, hk, rfl, hA, hG⟩ := hrel
        obtain ⟨y1, y2, y3, y4, y5⟩ := (H3.out.step0 hG.out.1).two
        have D5 := Lib.hid (next0 G3.out.1 hG.out.1)
        by_cases hlt : k < a
        · obtain ⟨x, b, o, q, d, hx, rfl, hb, e1, e2, hxs, hxn⟩ := (Row.deep HTR.out D5.out HB.out) k (by rw [HLA.out]; exact hlt)
          have CI := Lib.hid (IH.out x (List.mem_of_getElem? hx) wr _ D5.out hxs hxn)
          have A1 := Lib.hid (AT.out k x hx)
          have A2 := Lib.hid (AH.out k x hx)
          clear hx hxs hxn
          generalize occB v x = z at *
          generalize x.nm = xn at *
          generalize x.args.length = xa at *
          go_wp2_with fail
          refine CI.out.mono ?_
          rintro e w4 ⟨rfl, g4⟩
          have G4 := Lib.hid (hG.out.trans g4)
          clear g4 CI
          cases z
          · go_wp2_with fail
            go_roundw
            case rel => exact ⟨k + 1, by omega, by go_num, Lib.hid (by rw [A1.out, hA.out]; rfl), G4⟩
            case measure => simp [intOf]; omega
          · have E := A2.out rfl
            go_wp2_with fail
            go_ret
            exact ⟨by rw [E]; rfl, G3.out.trans G4.out⟩
        · obtain rfl : k = a := by omega
          have E : l.any (occB v) = false := by rw [← AE.out]; exact hA.out
          go_wp2_with fail
          go_ret
          exact ⟨by rw [E]; rfl, G3.out.trans hG.out⟩
    · obtain ⟨rfl, hn⟩ := isv_nil hv
      rw [hv] at CV
      rw [occ_var v hn]
      obtain ⟨z, hz⟩ : ∃ z, (n.toList == v.toList) = z := ⟨_, rfl⟩
      have HZ : eqB n v = z := by unfold eqB; rw [← hz, ByteArray.toList_eq, ByteArray.toList_eq]
      rw [HZ]
      clear hv hn HZ IH HTR
      dsimp only [List.length_nil] at *
      go_enter Tryz.func123, Tryz.ntmps123
      go_upto_region 1 with fail
      rw [← hW2]
      clear hW2
      go_wp2_with fail
      refine (CV.out _).mono ?_
      rintro e w3 ⟨rfl, g3⟩
      have G3 := Lib.hid (G2.out.trans g3)
      have H3 := Lib.hid (H2.out.step0 g3.1)
      clear g3 G2 H2 CV y1 y2 y3 y4 y5
      obtain ⟨y1, y2, y3, y4, y5⟩ := H3.out.two
      go_wp2_with fail
      go_ret
      exact ⟨rfl, G3.out⟩
/-- A row of the call's own, of bindings whose terms lie anywhere but in it. -/
def OwnH (base : Nat) (w : World) (L : List (Bd × Value)) (v : Value) : Prop :=
  w.ownsRow base 52 3 v L.length (KB.flat L) ∧ ∃ ok : Nat → Prop, (∀ b, ok b → b < w.heap.size ∧ v.ownBlock ≠ some b) ∧ ∀ x ∈ L, KB.inn ok w x
theorem OwnH.nil (base : Nat) (w : World) : OwnH base w [] (.slice none 0 0) :=
  ⟨⟨rfl, Or.inl ⟨rfl, rfl⟩⟩, fun _ => False, fun b h => h.elim, fun x h => by simp at h⟩
theorem OwnH.form {base : Nat} {w : World} {L : List (Bd × Value)} {v : Value} (h : OwnH base w L v) : ∃ a c, v = .slice a L.length c := by
  rcases h.1.2 with ⟨e, hz⟩ | ⟨g, cap, cur, e, _⟩
  · exact ⟨none, 0, by rw [e, hz]⟩
  · exact ⟨_, cap, e⟩
theorem OwnH.below {base : Nat} {w w' : World} {L : List (Bd × Value)} {v : Value} (h : OwnH base w L v) (g : Below w.heap.size w w') : OwnH base w' L v := by
  obtain ⟨h1, ok, h2, h3⟩ := h
  have hl := h1.lt
  refine ⟨⟨h1.1, ?_⟩, ok, fun b hk => ⟨Nat.lt_of_lt_of_le (h2 b hk).1 g.size, (h2 b hk).2⟩, fun x hx => KB.keep (h3 x hx) fun b o hk => g.cell (p := ⟨b, o, none⟩) (h2 b hk).1⟩
  rcases h1.2 with h | ⟨k, cap, cur, e1, e2, e3, e4⟩
  · exact Or.inl h
  · exact Or.inr ⟨k, cap, cur, e1, e2, (g.block k (hl k (by rw [e1]; rfl)).2).trans e3, e4⟩
theorem OwnH.drewN {base : Nat} {w : World} {L : List (Bd × Value)} {v : Value} (h : OwnH base w L v) (n : Nat) : OwnH base (w.drewN n) L v := by
  obtain ⟨h1, ok, h2, h3⟩ := h
  exact ⟨⟨h1.1, h1.2⟩, ok, h2, fun x hx => KB.keep (h3 x hx) fun _ _ _ => rfl⟩
theorem OwnH.add {base : Nat} {w2 w3 : World} {L : List (Bd × Value)} {v : Value} {o : Obj} {lo g cap : Nat} {x : Bd × Value} (h : OwnH base w2 L v) (hs : KB.inn (fun b => b < base ∨ (lo ≤ b ∧ b < w2.heap.size)) w2 x) (hbs : base ≤ w2.heap.size) (hv : ∀ k, v.ownBlock = some k → k < lo)
    (hown : w3.ownsRow base 52 3 (.slice (some ⟨g, 0, none⟩) (L.length + 1) cap) (L.length + 1) (KB.flat L ++ KB.cells x)) (hgrow : (w2.alloc o).grownBy w3 v.ownBlock) (hat : v.ownBlock = some g ∨ g = w2.heap.size + 1) :
    OwnH base w3 (L ++ [x]) (.slice (some ⟨g, 0, none⟩) (L.length + 1) cap) := by
  obtain ⟨h1, ok, h2, h3⟩ := h
  have hsz : w2.heap.size + 1 ≤ w3.heap.size := by have := hgrow.size; simpa using this
  have hb0 : ∀ k, v.ownBlock = some k → base ≤ k := fun k hk => (h1.lt k hk).1
  have fr : ∀ b o, b < w2.heap.size → v.ownBlock ≠ some b → w3.cell? ⟨b, o, none⟩ = w2.cell? ⟨b, o, none⟩ := fun b o hb hne => by
    refine World.cell?_of_block (w := w2) (a := ⟨b, o, none⟩) ?_
    exact (hgrow.block b (by simp; omega) (fun e => hne e.symm)).trans (Below.heap_alloc _ _ _ hb)
  have new : ∀ b, b < base ∨ (lo ≤ b ∧ b < w2.heap.size) → b < w2.heap.size ∧ v.ownBlock ≠ some b := fun b hk => by
    refine ⟨by omega, fun e => ?_⟩
    have := hv b e
    have := hb0 b e
    omega
  refine ⟨by rw [List.length_append, flat_app, flat_one]; exact hown, fun b => ok b ∨ (b < base ∨ (lo ≤ b ∧ b < w2.heap.size)), fun b hk => ?_, fun y hy => ?_⟩
  · have hb2 : b < w2.heap.size ∧ v.ownBlock ≠ some b := by
      rcases hk with hk | hk
      · exact h2 b hk
      · exact new b hk
    refine ⟨by omega, fun e => ?_⟩
    have e' : g = b := by simpa [Value.ownBlock] using e
    rcases hat with h | h
    · exact hb2.2 (by rw [h, e'])
    · omega
  · rcases List.mem_append.1 hy with hy | hy
    · exact KB.wide (KB.keep (h3 y hy) fun b o hk => fr b o (h2 b hk).1 (h2 b hk).2) fun b hk => Or.inl hk
    · obtain rfl := List.mem_singleton.1 hy
      exact KB.wide (KB.keep hs fun b o hk => fr b o (new b hk).1 (new b hk).2) fun b hk => Or.inr hk
theorem OwnH.sin {base : Nat} {w : World} {L : List (Bd × Value)} {v : Value} (h : OwnH base w L v) : SIn (· < w.heap.size) w (L.map (·.1)) v := by
  obtain ⟨h1, ok, h2, h3⟩ := h
  have hl := h1.lt
  have h3' : ∀ x ∈ L, KB.inn (· < w.heap.size) w x := fun x hx => KB.wide (h3 x hx) fun b hk => (h2 b hk).1
  refine ⟨L, rfl, ?_⟩
  rcases h1.2 with ⟨e, hz⟩ | ⟨g, cap, cur, e, e2, e3, e4, e5, _⟩
  · exact ⟨none, 0, by rw [e, hz], by omega, Nat.zero_le _, h3', fun h => by omega⟩
  · subst e
    refine ⟨_, cap, rfl, e4, e5, h3', fun _ => ⟨g, 0, rfl, (hl g rfl).2, fun i x hx j u hu => ?_⟩⟩
    have hi := (List.getElem?_eq_some_iff.1 hx).1
    have hj := (List.getElem?_eq_some_iff.1 hu).1
    rw [KB.len] at hj
    rw [show 0 + i * 3 + j = i * 3 + j by omega]
    exact (h1.cellAt _ (by omega)).trans (flat_get L i x hx j u hu)
end UnuH
end Go.Proofs.YtjfgnmmcdgpiiaaGreatDoor
/- The reference's bind. Conditions: valid terms; at most a thousand bindings. -/
namespace Go.Proofs.YtjfgnmmcdgpiiaaGreatDoor
open Go Go.RowKit
namespace UnuI
open LexM TermM TermI Kit TermN TermU UniK UniM UniA UniC UniD UniE UniG UniH UniJ UniO UniL UniR UnuA UnuE UnuF UnuG UnuH
theorem bind_t1 {s : List Bd} {v : ByteArray} {t : Tm} (h : occB v t = true) : bindR s v t = none := by unfold bindR; rw [h]; rfl
theorem bind_t2 {s : List Bd} {v : ByteArray} {t : Tm} (h : 4 < depthT t) : bindR s v t = none := by unfold bindR; rw [show deepB t = true by simp [deepB, h], Bool.or_true]; rfl
theorem bind_t3 {s : List Bd} {v : ByteArray} {t : Tm} (h : (s.any fun x => deepB (appT (oneS v t) x.2)) = true) : bindR s v t = none := by unfold bindR; split <;> simp_all
theorem bind_t4 {s : List Bd} {v : ByteArray} {t : Tm} (h1 : occB v t = false) (h2 : ¬ 4 < depthT t) (h3 : (s.any fun x => deepB (appT (oneS v t) x.2)) = false) : bindR s v t = some (putS (v, t) (s.map fun x => (x.1, appT (oneS v t) x.2))) := by
  unfold bindR
  rw [h1, show deepB t = false by simp [deepB, h2], h3]
  rfl
theorem sin_has {ok : Nat → Prop} {w : World} {g : Nat} (L : List (Bd × Value)) (hH : Has w g (KB.flat L).toArray) (hI : ∀ x ∈ L, KB.inn ok w x) (hg : ok g) (hl : L.length ≤ maxLen) : SIn ok w (L.map (·.1)) (.slice (some ⟨g, 0, none⟩) L.length L.length) := by
  refine ⟨L, rfl, some ⟨g, 0, none⟩, L.length, rfl, Nat.le_refl _, hl, hI, fun _ => ⟨g, 0, rfl, hg, fun i x hx j u hu => ?_⟩⟩
  rw [Nat.zero_add, hH.cell]
  have := flat_get (K := KB) L i x hx j u hu
  simpa using this
theorem anyb_take {p : Bd → Bool} {l : List Bd} {k : Nat} {x : Bd} (h : l[k]? = some x) : (l.take (k + 1)).any p = ((l.take k).any p || p x) := by
  rw [take_get l k x h, List.any_append]
  simp
set_option maxRecDepth 100000 in
set_option maxHeartbeats 1600000 in
theorem rbind_any (s : List Bd) (v : ByteArray) (t : Tm) (hv : varB v = true) (ht8 : validT false 8 t = true) (hs4 : ∀ x ∈ s, validT false 4 x.2 = true) (hl : s.length ≤ 1000) (B : Nat) (w : World) (sv : Value) (p2 : Option Addr) (c2 : Nat) (hB : B ≤ w.heap.size) (hs : SIn (· < B) w s sv) (ht : SlIn (· < B) w t.args (.slice p2 t.args.length c2)) (hvn : v.size ≤ maxLen) (htn : t.nm.size ≤ maxLen) :
    Calls Tryz.prog 89 #[sv, .string v, .agg #[.string t.nm, .slice p2 t.args.length c2]] w (BndR (bindR s v t) w) := by
  obtain ⟨i0, hi, hz0, hz1, hz2⟩ := info_parts infoB
  obtain ⟨p1, c1, rfl, hc, hm, hR⟩ := SIn.row hs
  obtain ⟨W2, hW2⟩ : ∃ W2, W2 = w.alloc (.cells #[.string t.nm, .slice p2 t.args.length c2] 27) := ⟨_, rfl⟩
  have B2 : Hid (Below w.heap.size w W2) := Lib.hid (by rw [hW2]; exact below_alloc _ _)
  have T2 : Hid (Has W2 w.heap.size #[.string t.nm, .slice p2 t.args.length c2]) := Lib.hid (by rw [hW2]; exact Has.new _ _ _)
  have CO := Lib.hid (fun w' (k : Below w.heap.size w w') => occ_any v t B w' _ (Nat.le_trans hB k.size) (ht.deep k hB) htn)
  have CD := Lib.hid (fun w' (k : Below w.heap.size w w') => rdepth_any t B w' _ (Nat.le_trans hB k.size) (ht.deep k hB) (by have := size_8 ht8; omega))
  have H4 := Lib.hid (fun (h : ¬ 4 < depthT t) => valid_at ht8 (show depthT t ≤ 4 by omega))
  have HT := Lib.hid (fun w' (k : Below w.heap.size w w') => ht.deep k hB)
  have HSN := Lib.hid (And.intro hvn htn)
  have HS4 := Lib.hid hs4
  have HV := Lib.hid hv
  have HR := Lib.hid hR
  have HB := Lib.hid hB
  have BT1 := Lib.hid (fun h => bind_t1 (s := s) (v := v) (t := t) h)
  have BT2 := Lib.hid (fun h => bind_t2 (s := s) (v := v) (t := t) h)
  have BT3 := Lib.hid (fun h => bind_t3 (s := s) (v := v) (t := t) h)
  have BT4 := Lib.hid (fun h1 h2 h3 => bind_t4 (s := s) (v := v) (t := t) h1 h2 h3)
  generalize hzo : occB v t = zo at *
  generalize hdt : depthT t = dt at *
  have HN : Hid (t.nm = t.nm) := Lib.hid rfl
  clear hzo hdt hs ht hR hc hm hs4 hv hvn htn ht8 hB
  generalize hln : s.length = n at *
  have HLN := Lib.hid hln
  clear hln
  obtain ⟨y1, y2, y3, y4, y5⟩ := T2.out.two
  go_enter Tryz.func89, Tryz.ntmps89
  go_upto_region 1 with fail
  rw [← hW2]
  clear hW2
  go_wp2_with fail
  refine (CO.out _ B2.out).mono ?_
  rintro e w3 ⟨rfl, g3⟩
  have D3 := Lib.hid (next0 B2.out g3.1)
  have T3 := Lib.hid (T2.out.step0 g3.1)
  clear CO g3 B2 T2 y1 y2 y3 y4 y5
  cases zo
  case true =>
    have E9 := BT1.out rfl
    go_wp2_with fail
    refine bodyPost_ret (v := .tuple #[.slice none 0 0, .bool false]) (by simp [results, Tryz.results89, go_sem]) rfl ?_
    unfold BndR
    exact ⟨_, false, rfl, (fun h => by cases h), (fun _ => E9), D3.out⟩
  obtain ⟨y1, y2, y3, y4, y5⟩ := T3.out.two
  go_wp2_with fail
  refine (CD.out _ D3.out).mono ?_
  rintro e w4 ⟨rfl, g4⟩
  have D4 := Lib.hid (next0 D3.out g4.1)
  have T4 := Lib.hid (T3.out.step0 g4.1)
  clear CD g4 D3 T3 y1 y2 y3 y4 y5
  by_cases hd : (4 : Int) < (dt : Int)
  · have E9 := BT2.out (by omega)
    go_wp2_with fail
    refine bodyPost_ret (v := .tuple #[.slice none 0 0, .bool false]) (by simp [results, Tryz.results89, go_sem]) rfl ?_
    unfold BndR
    exact ⟨_, false, rfl, (fun h => by cases h), (fun _ => E9), D4.out⟩
  have V4 := Lib.hid (H4.out (by omega))
  have BT5 := Lib.hid (fun h3 => BT4.out (by trivial) (by omega) h3)
  obtain ⟨y1, y2, y3, y4, y5⟩ := T4.out.two
  obtain ⟨W5, hW5⟩ : ∃ W5, W5 = w4.alloc (.cells #[.string v, .string t.nm, .slice p2 t.args.length c2] 52) := ⟨_, rfl⟩
  have K5 : Hid (Below w4.heap.size w4 W5) := Lib.hid (by rw [hW5]; exact below_alloc _ _)
  have D5 := Lib.hid (next0 D4.out K5.out)
  have hs5 : W5.heap.size = w4.heap.size + 1 := by rw [hW5]; simp
  have O5 : Hid (Has W5 w4.heap.size #[.string v, .string t.nm, .slice p2 t.args.length c2]) := Lib.hid (by rw [hW5]; exact Has.new _ _ _)
  have hwB : B ≤ w4.heap.size := Nat.le_trans HB.out D4.out.size
  have TI : Hid (KB.inn (· < W5.heap.size) W5 ((v, t), .slice p2 t.args.length c2)) := Lib.hid ⟨(HT.out W5 D5.out).weaken fun b hb => by have := hs5; omega, HSN.out.2, HSN.out.1⟩
  have S5 : Hid (SIn (· < W5.heap.size) W5 (oneS v t) (.slice (some ⟨w4.heap.size, 0, none⟩) 1 1)) := Lib.hid (sin_has [((v, t), .slice p2 t.args.length c2)] O5.out (fun x hx => by obtain rfl := List.mem_singleton.1 hx; exact TI.out) (show w4.heap.size < W5.heap.size by omega) (by unfold maxLen; simp))
  have CA := Lib.hid (fun (x : Bd) (hx : x ∈ s) w' (k : Below W5.heap.size W5 w') (q : Value) (hq : SlIn (· < B) w' x.2.args q) (hn : x.2.nm.size ≤ maxLen) => rapply_any (oneS v t) (one_var HV.out) x.2 W5.heap.size w' _ q k.size (S5.out.deep k (Nat.le_refl _)) (hq.weaken fun b hb => by have := hs5; omega) hn (by have := size_8 (valid_mono (by omega) (HS4.out x hx)); omega))
  have SU := Lib.hid (fun (x : Bd) (hx : x ∈ s) => show sizeT (appT (oneS v t) x.2) ≤ 30000 from size_8 (by
    rw [app_sub (one_var HV.out)]
    exact valid_sub (k := 4) (d := 4) (fun z hz => asF_valid (by omega) (fun y hy => by obtain rfl := List.mem_singleton.1 hy; exact V4.out) hz) (HS4.out x hx)))
  have AT := Lib.hid (fun k x (h : s[k]? = some x) => anyb_take (p := fun x => deepB (appT (oneS v t) x.2)) h)
  have MT := Lib.hid (fun k x (h : s[k]? = some x) => show (s.take (k + 1)).map (fun x => ((x.1, appT (oneS v t) x.2) : Bd)) = (s.take k).map (fun x => ((x.1, appT (oneS v t) x.2) : Bd)) ++ [(x.1, appT (oneS v t) x.2)] from by rw [take_get s k x h]; simp)
  have AH := Lib.hid (fun k x (h : s[k]? = some x) (hd : 4 < depthT (appT (oneS v t) x.2)) => BT3.out (List.any_eq_true.2 ⟨x, List.mem_of_getElem? h, by simp [deepB, hd]⟩))
  have AE : Hid ((s.take s.length).any (fun x => deepB (appT (oneS v t) x.2)) = s.any fun x => deepB (appT (oneS v t) x.2)) := Lib.hid (by rw [List.take_length])
  have ME : Hid ((s.take s.length).map (fun x => ((x.1, appT (oneS v t) x.2) : Bd)) = s.map fun x => ((x.1, appT (oneS v t) x.2) : Bd)) := Lib.hid (by rw [List.take_length])
  have PU := Lib.hid (fun w' (k : Below W5.heap.size W5 w') ov (ho : SIn (· < w'.heap.size) w' (s.map fun x => ((x.1, appT (oneS v t) x.2) : Bd)) ov) => put_any (s.map fun x => ((x.1, appT (oneS v t) x.2) : Bd)) (v, t) (by rw [List.length_map, HLN.out]; omega) w'.heap.size w' ov (.slice p2 t.args.length c2) (Nat.le_refl _) ho (KB.wide (KB.keep TI.out fun b o hb => k.cell (p := ⟨b, o, none⟩) hb) fun b hb => Nat.lt_of_lt_of_le hb k.size))
  clear H4 HT BT1 BT2 BT3 BT4 HS4 V4 TI S5
  dsimp only at PU
  rw [HLN.out] at AE ME
  generalize t.nm = tn at *
  generalize t.args.length = ta at *
  go_upto_region 6 with fail
  rw [← hW5]
  clear hW5 y1 y2 y3 y4 y5
  go_loopw [9, 10] (fun ov i wr => ∃ (k : Nat) (L : List (Bd × Value)), k ≤ n ∧ i = .int .i64 k ∧ Hid (L.map (·.1) = (s.take k).map (fun x => ((x.1, appT (oneS v t) x.2) : Bd))) ∧ Hid ((s.take k).any (fun x => deepB (appT (oneS v t) x.2)) = false) ∧ Hid (OwnH W5.heap.size wr L ov) ∧ Hid (Below W5.heap.size W5 wr)) (fun _ i _ => n - (intOf i).toNat)
  case atStart => exact ⟨0, [], Nat.zero_le _, rfl, Lib.hid rfl, Lib.hid rfl, Lib.hid (OwnH.nil _ _), Lib.hid (Below.refl _ _)⟩
  case round =>
    obtain ⟨k, L, hk, rfl, hM, hA, hO, hK⟩ := hrel
    obtain ⟨va, vc, rfl⟩ := hO.out.form
    have hLk : L.length ≤ k := by
      have := congrArg List.length hM.out
      rw [List.length_map, List.length_map, List.length_take, HLN.out] at this
      omega
    by_cases hlt : k < n
    · obtain ⟨x, b, o, q, d, hx, rfl, hb, e1, e2, e3, hxs, hxn, hxv⟩ := (RowS.deep HR.out (next0 D5.out hK.out) HB.out) k (by rw [HLN.out]; exact hlt)
      have hmx := List.mem_of_getElem? hx
      have CA1 := Lib.hid (CA.out x hmx wr hK.out _ hxs hxn)
      have SU1 := Lib.hid (SU.out x hmx)
      have AT1 := Lib.hid (AT.out k x hx)
      have MT1 := Lib.hid (MT.out k x hx)
      have AH1 := Lib.hid (AH.out k x hx)
      have XV := Lib.hid hxv
      clear hx hmx hxs hxn hxv CA SU AT MT AH
      have A1 := bd3 (show L.length ≤ 1000001 by omega)
      have A2 := bd4 (show L.length ≤ 1000001 by omega)
      obtain ⟨u, hu⟩ : ∃ u, appT (oneS v t) x.2 = u := ⟨_, rfl⟩
      rw [hu] at CA1 SU1 AT1 MT1 AH1
      clear hu
      generalize x.2.nm = xn at *
      generalize x.2.args.length = xa at *
      generalize x.1 = xv at *
      unfold RApR at CA1
      go_wp2_with fail
      refine CA1.out.mono ?_
      rintro e w6 ⟨q6, d6, rfl, hS6, hn6, k6⟩
      have K6 := Lib.hid (next0 hK.out k6)
      have O6 := Lib.hid (hO.out.below k6)
      have hbr : b < wr.heap.size := by have := hK.out.size; omega
      have XC := Lib.hid (fun w' (g : Below wr.heap.size wr w') => (g.cell (p := ⟨b, _, none⟩) hbr).trans e1)
      have OL := Lib.hid (fun k hk => (hO.out.1.lt k hk).2)
      obtain ⟨W7, hW7⟩ : ∃ W7, W7 = w6.alloc (.cells #[.string u.nm, .slice q6 u.args.length d6] 27) := ⟨_, rfl⟩
      have J7 : Hid (Below w6.heap.size w6 W7) := Lib.hid (by rw [hW7]; exact below_alloc _ _)
      have U7 : Hid (Has W7 w6.heap.size #[.string u.nm, .slice q6 u.args.length d6]) := Lib.hid (by rw [hW7]; exact Has.new _ _ _)
      have hs7 : W7.heap.size = w6.heap.size + 1 := by rw [hW7]; simp
      have K7 := Lib.hid (next0 K6.out J7.out)
      have R7 := Lib.hid (next0 k6 J7.out)
      have O7 := Lib.hid (O6.out.below J7.out)
      have S7 := Lib.hid (hS6.frame (w' := W7) fun b o hb => J7.out.cell (p := ⟨b, o, none⟩) (show b < w6.heap.size by have := hK.out.size; have := k6.size; omega))
      have CD7 := Lib.hid (rdepth_any u W7.heap.size W7 _ (Nat.le_refl _) (S7.out.weaken fun b hb => by have := hK.out.size; have := k6.size; omega) (by have := SU1.out; omega))
      have NU := Lib.hid hn6
      clear hS6 hn6 k6 CA1 K6 O6 hO hK e1 e2 e3 J7
      generalize hdu : depthT u = du at *
      have HDU := Lib.hid hdu
      clear hdu
      have hun := Lib.hid (rfl : u.nm = u.nm)
      obtain ⟨y1, y2, y3, y4, y5⟩ := U7.out.two
      go_upto_region 9 with fail
      rw [← hW7]
      clear hW7
      go_wp2_with fail
      refine CD7.out.mono ?_
      rintro e w8 ⟨rfl, g8⟩
      have K8 := Lib.hid (next0 K7.out g8.1)
      have R8 := Lib.hid (next0 R7.out g8.1)
      have O8 := Lib.hid (O7.out.below g8.1)
      have U8 := Lib.hid (U7.out.step0 g8.1)
      have hs8 : W7.heap.size ≤ w8.heap.size := g8.1.size
      have S8 := Lib.hid (S7.out.frame (w' := w8) fun b o hb => g8.1.cell (p := ⟨b, o, none⟩) (show b < W7.heap.size by have := R7.out.size; have := K7.out.size; omega))
      clear CD7 g8 K7 R7 O7 U7 S7 y1 y2 y3 y4 y5
      by_cases hd8 : (4 : Int) < (du : Int)
      · have E9 := AH1.out (by omega)
        have D9 := Lib.hid (next0 D5.out K8.out)
        go_wp2_with fail
        refine bodyPost_ret (v := .tuple #[.slice none 0 0, .bool false]) (by simp [results, Tryz.results89, go_sem]) rfl ?_
        unfold BndR
        exact ⟨_, false, rfl, (fun h => by cases h), (fun _ => E9), D9.out⟩
      · have ND : deepB u = false := by rw [← HDU.out] at hd8; simp [deepB]; omega
        obtain ⟨y1, y2, y3, y4, y5⟩ := U8.out.two
        have c1 := XC.out w8 R8.out
        have hzb : W5.heap.size ≤ (w8.alloc (.cells #[.string xv, .string u.nm, .slice q6 u.args.length d6] 52)).heap.size := by have := K8.out.size; simp; omega
        have KI : Hid (KB.inn (fun b => b < W5.heap.size ∨ (wr.heap.size ≤ b ∧ b < w8.heap.size)) w8 ((xv, u), .slice q6 u.args.length d6)) := Lib.hid ⟨S8.out.weaken fun b hb => by omega, NU.out, XV.out⟩
        clear U8 S8 NU XV XC
        generalize hun' : u.nm = un at *
        have HUN := Lib.hid hun'
        clear hun' hun
        generalize u.args.length = ul at *
        go_wp2_with fail
        have OW : ((w8.alloc (.cells #[.string xv, .string un, .slice q6 ul d6] 52)).drew).ownsRow W5.heap.size 52 3 (.slice va L.length vc) L.length (KB.flat L) := ⟨(O8.out.1.alloc (.cells #[.string xv, .string un, .slice q6 ul d6] 52)).1, (O8.out.1.alloc (.cells #[.string xv, .string un, .slice q6 ul d6] 52)).2⟩
        have NW : ∀ j u, [Value.string xv, .string un, .slice q6 ul d6][j]? = some u → ((w8.alloc (.cells #[.string xv, .string un, .slice q6 ul d6] 52)).drew).cell? ((⟨w8.heap.size, 0, none⟩ : Addr).add j) = some u := newsK w8 _ _ _ _
        have OA := Lib.hid (fun (w9 : World) (g5 cap5 : Nat) hown (hgrow : ((w8.alloc (.cells #[.string xv, .string un, .slice q6 ul d6] 52)).drew).grownBy w9 (Value.slice va L.length vc).ownBlock) hat => OwnH.add (w2 := w8.drew) (w3 := w9) (o := .cells #[.string xv, .string un, .slice q6 ul d6] 52) (g := g5) (cap := cap5) (lo := wr.heap.size) (x := ((xv, u), Value.slice q6 ul d6)) (O8.out.drewN 1) (KB.keep KI.out fun _ _ _ => rfl) (by exact K8.out.size) OL.out hown hgrow hat)
        have OK9 := Lib.hid (fun (w9 : World) (hgrow : ((w8.alloc (.cells #[.string xv, .string un, .slice q6 ul d6] 52)).drew).grownBy w9 (Value.slice va L.length vc).ownBlock) => show Below W5.heap.size W5 w9 from ((K8.out.alloc (by exact K8.out.size) (.cells #[.string xv, .string un, .slice q6 ul d6] 52)).drew).grown hgrow (by have := K8.out.size; simp; omega) (fun k hk => (O8.out.1.lt k hk).1))
        have hzd : W5.heap.size ≤ ((w8.alloc (.cells #[.string xv, .string un, .slice q6 ul d6] 52)).drew).heap.size := hzb
        have hze : ((w8.alloc (.cells #[.string xv, .string un, .slice q6 ul d6] 52)).drew).heap.size = w8.heap.size + 1 := by simp
        have HF : Hid (KB.flat L ++ KB.cells ((xv, u), Value.slice q6 ul d6) = KB.flat L ++ [.string xv, .string un, .slice q6 ul d6]) := Lib.hid (by rw [← HUN.out]; rfl)
        clear O8 KI
        go_region_law (first
          | (refine step_append_lies _ rfl _ _ 22 rfl W5.heap.size 52 i0 zB 3 56 Tryz.underlying22 hi hz0 hz1 hz2 rfl (by decide) (.slice va L.length vc) L.length (KB.flat L) rfl OW ⟨w8.heap.size, 0, none⟩ 1 1 [.string xv, .string un, .slice q6 ul d6] rfl rfl NW (one_B _ _ _ _ _) (by decide) A1 A2 hzd (w8.heap.size + 1) hze ?_; intro g5 cap5 w9 hown hgrow hat hlt5; have O9 := Lib.hid (OA.out w9 g5 cap5 (by rw [HF.out]; exact hown) hgrow hat); have K9 := Lib.hid (OK9.out w9 hgrow); clear hown hgrow hat))
        all_goals
          go_wp2_with fail
          go_roundw
          case rel => exact ⟨k + 1, L ++ [((xv, u), Value.slice q6 ul d6)], by omega, by go_num, Lib.hid (by rw [List.map_append, hM.out, MT1.out]; rfl), Lib.hid (by rw [AT1.out, hA.out, ND]; rfl), O9, K9⟩
          case measure => simp [intOf]; omega
    · obtain rfl : k = n := by omega
      have SO := Lib.hid (hO.out.sin)
      rw [hM.out, ME.out] at SO
      have NA : (s.any fun x => deepB (appT (oneS v t) x.2)) = false := by rw [← AE.out]; exact hA.out
      have E9 := Lib.hid (BT5.out NA)
      have PU1 := Lib.hid (PU.out wr hK.out _ SO.out)
      have D9 := Lib.hid (next0 D5.out hK.out)
      obtain ⟨z1, z2, z3⟩ := three (O5.out.step0 hK.out)
      unfold InsR at PU1
      clear PU SO CA SU AT MT AH AE ME hM hA hO
      generalize (s.map fun x => ((x.1, appT (oneS v t) x.2) : Bd)) = s9 at *
      go_wp2_with fail
      refine PU1.out.mono ?_
      rintro e w6 ⟨v6, rfl, hS6, k6⟩
      have S6 := Lib.hid hS6
      have D6 := Lib.hid (next0 D9.out k6)
      clear hS6 k6
      go_wp2_with fail
      refine bodyPost_ret (v := .tuple #[v6, .bool true]) (by simp [results, Tryz.results89, go_sem]) rfl ?_
      unfold BndR
      exact ⟨_, true, rfl, (fun _ => ⟨_, E9.out, S6.out⟩), (fun h => by cases h), D6.out⟩
end UnuI
end Go.Proofs.YtjfgnmmcdgpiiaaGreatDoor
