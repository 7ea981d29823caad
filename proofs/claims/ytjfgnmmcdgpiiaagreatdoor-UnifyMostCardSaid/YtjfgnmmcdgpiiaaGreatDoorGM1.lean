/- Texts laid together: UnmA; UnuA; UnmB; UnmC; UnmD; UnmE; UnuB; UnnC. Their own heads stand before each. -/
import Derived.Test.YtjfgnmmcdgpiiaaGreatDoorUniL
import Derived.Test.YtjfgnmmcdgpiiaaGreatDoorTermE
import Derived.Test.YtjfgnmmcdgpiiaaGreatDoorTermT
import Derived.Maps.OwnSet
import Derived.Test.YtjfgnmmcdgpiiaaGreatDoorUniH
import Derived.Test.YtjfgnmmcdgpiiaaGreatDoorUniY
import Derived.Test.YtjfgnmmcdgpiiaaGreatDoorTermU1
import Derived.Deep.LoopGhost
import Derived.Test.YtjfgnmmcdgpiiaaGreatDoorTermR
import Derived.Deep.RegionLaw
import Derived.Deep.RegionWith
import Derived.Deep.DeepCutAuto
import Derived.BigQuiet
import Derived.IntWalk
import Derived.Sort.EncStr
import Derived.Sort.Grow
import Derived.Test.YtjfgnmmcdgpiiaaGreatDoorUnjA
import Derived.Test.YtjfgnmmcdgpiiaaGreatDoorUniP
import Derived.Lib.SlicesCompact
/- Classes of terms as plain data, with fuel; and a map of the call's own whose elements are held as they are. No conditions. -/
namespace Go.Proofs.YtjfgnmmcdgpiiaaGreatDoor
open Go Go.RowKit Go.Maps Go.WideMaps
namespace UnmA
open LexM TermM TermI Kit TermN TermU UniM UniG TermT
abbrev Ky := List UInt8
def lookK {α : Type} (L : List (Ky × α)) (s : Ky) : Option α := (L.find? fun x => x.1 == s).map (·.2)
theorem lookK_cons {α : Type} (x : Ky × α) (L : List (Ky × α)) (s : Ky) : lookK (x :: L) s = if x.1 = s then some x.2 else lookK L s := by
  unfold lookK
  rw [List.find?_cons]
  by_cases h : x.1 = s
  · rw [if_pos h, beq_iff_eq.2 h]; rfl
  · rw [if_neg h, beq_eq_false_iff_ne.2 h]
theorem lookK_map {α β : Type} (f : α → β) (L : List (Ky × α)) (s : Ky) : lookK (L.map fun x => (x.1, f x.2)) s = (lookK L s).map f := by
  induction L with
  | nil => rfl
  | cons x L ih =>
    rw [List.map_cons, lookK_cons, lookK_cons, ih]
    by_cases h : x.1 = s
    · rw [if_pos h, if_pos h]; rfl
    · rw [if_neg h, if_neg h]
theorem lookK_mem {α : Type} {L : List (Ky × α)} {s : Ky} {x : α} (h : lookK L s = some x) : (s, x) ∈ L := by
  induction L with
  | nil => cases h
  | cons y L ih =>
    rw [lookK_cons] at h
    by_cases c : y.1 = s
    · rw [if_pos c] at h
      cases h
      rw [← c]
      exact List.mem_cons_self
    · rw [if_neg c] at h
      exact List.mem_cons_of_mem _ (ih h)
/-- What a map reads as, the latest entry first. -/
def DataOf (L : List (Ky × Value)) : DataW Value := L.foldr (fun x D => D.put (.string x.1) (.held x.2)) (.map [])
def heldE : Value → Option (DataW Value × List MemPlace) := fun v => some (.held v, [])
theorem data_map : ∀ L, IsMap (DataOf L)
  | [] => isMap_empty
  | _ :: L => (data_map L).put _ _
theorem has_data (s : Ky) : ∀ L, Maps.has (DataOf L) (.string s) = (lookK L s).isSome
  | [] => rfl
  | x :: L => by
    rw [lookK_cons]
    by_cases h : x.1 = s
    · rw [if_pos h, ← h]
      exact has_put_same (data_map L) (show WideAt.IsKeyLit (.string x.1) from trivial) _
    · rw [if_neg h, ← has_data s L]
      exact has_put_other (by intro e; injection e with e; exact h e.symm) _
theorem at_data (s : Ky) (z : Value) : ∀ L, (DataOf L).atKey (.string s) (.held z) = .held ((lookK L s).getD z)
  | [] => rfl
  | x :: L => by
    rw [lookK_cons]
    by_cases h : x.1 = s
    · rw [if_pos h, ← h]
      exact atKey_put_same (data_map L) (show WideAt.IsKeyLit (.string x.1) from trivial) _ _
    · rw [if_neg h, ← at_data s z L]
      exact atKey_put_other (by intro e; injection e with e; exact h e.symm) _ _
set_option maxRecDepth 100000 in
theorem look_held {w : World} {b n : Nat} {L : List (Ky × Value)} {t e : TypeId} {z : Value} (h : w.ownsMap Tryz.prog 9 heldE b n (DataOf L)) (ht : Tryz.prog.underlying t = some (.map 9 e)) (hz : (zeroValue e).run Tryz.prog w = .ok z w) (s : ByteArray) (hs : s.size ≤ maxLen) :
    (Instr.lookup t (.map (some b)) (.string s) true).run Tryz.prog w = .ok (.tuple #[(lookK L s.data.toList).getD z, .bool (lookK L s.data.toList).isSome]) w := by
  obtain ⟨v, ps, hrun, hv⟩ := h.look_ok TermE.law ht hz (show heldE z = some (.held z, []) from rfl) (keyOf_string_mk Tryz.underlying9 hs)
  rw [at_data] at hv
  rw [has_data] at hrun
  unfold heldE at hv
  injection hv with hv
  injection hv with hv _
  injection hv with hv
  rw [hrun, hv]
/-! ### The plain functions -/
abbrev Cls := List (Ky × Tm)
def leadP (D : Cls) : Nat → Tm → Option Tm
  | 0, _ => none
  | n + 1, t => match lookK D (textT t) with
    | none => some t
    | some u => leadP D n u
def ledB (a b : Tm) : Bool := isV b && (!isV a || ltB a.nm b.nm)
def joinA (f : Cls → Tm → Tm → Option (Cls × Bool)) : Cls → List Tm → List Tm → Option (Cls × Bool)
  | D, x :: xs, y :: ys => match f D x y with
    | none => none
    | some (D', false) => some (D', false)
    | some (D', true) => joinA f D' xs ys
  | D, _, _ => some (D, true)
def headE (x y : Tm) : Bool := eqB x.nm y.nm && decide (x.args.length = y.args.length)
def joinB (f : Cls → Tm → Tm → Option (Cls × Bool)) (D : Cls) (x y : Tm) : Option (Cls × Bool) :=
  if isV y = true then some ((textT y, x) :: D, true) else if headE x y = true then joinA f ((textT y, x) :: D) x.args y.args else some ((textT y, x) :: D, false)
def joinP : Nat → Cls → Tm → Tm → Option (Cls × Bool)
  | 0, _, _, _ => none
  | n + 1, D, a, b => (leadP D n a).bind fun a => (leadP D n b).bind fun b =>
    if cmpT a b = 0 then some (D, true) else if ledB b a = true then joinB (joinP n) D b a else joinB (joinP n) D a b
def mapO {α β : Type} (f : α → Option β) : List α → Option (List β)
  | [] => some []
  | x :: l => (f x).bind fun y => (mapO f l).map fun r => y :: r
def resP (D : Cls) (n : Nat) : Nat → Tm → Option Tm
  | 0, t => (leadP D n t).map fun l => .mk l.nm []
  | d + 1, t => (leadP D n t).bind fun l => (mapO (resP D n d) l.args).map fun r => .mk l.nm r
def solP (D : Cls) (n : Nat) : List ByteArray → Option (List Bd)
  | [] => some []
  | v :: l => (resP D n 4 (.mk v [])).bind fun t => (solP D n l).map fun s => if eqB t.nm v = true then s else (v, t) :: s
/-- Is it a term whose text can be had? -/
def Ok (t : Tm) : Prop := t.nm.size ≤ maxLen ∧ (textT t).length ≤ 1000000 ∧ sizeT t ≤ 1000000
theorem Ok.arg {t x : Tm} (h : Ok t) (hx : x ∈ t.args) (hn : x.nm.size ≤ maxLen) : Ok x := by
  obtain ⟨n, l⟩ := t
  obtain ⟨_, h1, h2⟩ := h
  obtain ⟨i, hi⟩ := List.mem_iff_getElem?.1 hx
  have h3 := (text_get hi).1
  have hne : l.isEmpty = false := by cases l with | nil => cases hx | cons a r => rfl
  refine ⟨hn, ?_, ?_⟩
  · simp only [Tm.args] at hi h3
    have h4 : (textT (.mk n l)).length = n.data.toList.length + (1 + (((tailT l).drop 1).length + 1)) := by
      simp [textT, hne]
      omega
    rw [List.length_drop] at h4
    omega
  · have h5 : sizeT (.mk n l) = 1 + sizeL l := by simp only [sizeT]; omega
    have h6 := UniD.size_mem hx
    simp only [Tm.args] at h6
    omega
theorem joinA_len {f : Cls → Tm → Tm → Option (Cls × Bool)} (hf : ∀ D x y D' r, f D x y = some (D', r) → D.length ≤ D'.length) : ∀ xs ys D D' r, joinA f D xs ys = some (D', r) → D.length ≤ D'.length
  | [], ys, D, D', r, h => by cases ys <;> (cases h; exact Nat.le_refl _)
  | x :: xs, [], D, D', r, h => by cases h; exact Nat.le_refl _
  | x :: xs, y :: ys, D, D', r, h => by
    unfold joinA at h
    cases he : f D x y with
    | none => rw [he] at h; cases h
    | some z =>
      obtain ⟨D1, b⟩ := z
      have h1 := hf _ _ _ _ _ he
      rw [he] at h
      cases b
      · cases h; exact h1
      · exact Nat.le_trans h1 (joinA_len hf xs ys D1 D' r h)
theorem joinB_len {f : Cls → Tm → Tm → Option (Cls × Bool)} (hf : ∀ D x y D' r, f D x y = some (D', r) → D.length ≤ D'.length) {D : Cls} {x y : Tm} {D' : Cls} {r : Bool} (h : joinB f D x y = some (D', r)) : D.length + 1 ≤ D'.length := by
  unfold joinB at h
  split at h
  · cases h; simp
  · split at h
    · have := joinA_len hf _ _ _ _ _ h
      simpa using this
    · cases h; simp
theorem joinP_len : ∀ n D a b D' r, joinP n D a b = some (D', r) → D.length ≤ D'.length
  | 0, D, a, b, D', r, h => by cases h
  | n + 1, D, a, b, D', r, h => by
    unfold joinP at h
    cases ha : leadP D n a with
    | none => rw [ha] at h; cases h
    | some x =>
      cases hb : leadP D n b with
      | none => rw [ha, hb] at h; cases h
      | some y =>
        rw [ha, hb] at h
        simp only [Option.bind_some] at h
        split at h
        · cases h; exact Nat.le_refl _
        · split at h
          · have := joinB_len (joinP_len n) h; omega
          · have := joinB_len (joinP_len n) h; omega
/-! ### In memory -/
/-- Block bm is the map of the classes; their terms lie below B. -/
def Cl (w : World) (bm B : Nat) (D : Cls) : Prop :=
  ∃ L : List (Ky × Tm × Value), D = L.map (fun x => (x.1, x.2.1)) ∧ w.ownsMap Tryz.prog 9 heldE bm D.length (DataOf (L.map fun x => (x.1, Value.agg #[.string x.2.1.nm, x.2.2]))) ∧ (∀ x ∈ L, SlIn (· < B) w x.2.1.args x.2.2 ∧ Ok x.2.1)
theorem Cl.lt {w : World} {bm B : Nat} {D : Cls} (h : Cl w bm B D) : bm < w.heap.size := by
  obtain ⟨L, _, h, _⟩ := h
  exact h.lt
theorem Cl.made (w : World) (B : Nat) : Cl (w.alloc (.map #[] 0)) w.heap.size B [] :=
  ⟨[], rfl, World.ownsMap_made _ _ _ _, fun x hx => by cases hx⟩
theorem Cl.keep {w w' : World} {bm B : Nat} {D : Cls} (h : Cl w bm B D) (hb : Below w.heap.size w w') (hB : B ≤ w.heap.size) : Cl w' bm B D := by
  have hl := h.lt
  obtain ⟨L, h1, h2, h3⟩ := h
  exact ⟨L, h1, h2.kept (row := none) ⟨hb.os, hb.tape, hb.output, hb.size, fun i hi _ => hb.block i hi⟩ (by simp), fun x hx => ⟨(h3 x hx).1.deep hb hB, (h3 x hx).2⟩⟩
/-- What a look-up answers. -/
theorem Cl.look {w : World} {bm B : Nat} {D : Cls} (h : Cl w bm B D) {t : TypeId} (ht : Tryz.prog.underlying t = some (.map 9 27)) (x : Tm) (hx : (textT x).length ≤ maxLen) :
    ∃ v, (Instr.lookup t (.map (some bm)) (.string ⟨(textT x).toArray⟩) true).run Tryz.prog w = .ok (.tuple #[v, .bool (lookK D (textT x)).isSome]) w ∧ (lookK D (textT x) = none → v = .agg #[.string ⟨#[]⟩, .slice none 0 0]) ∧ (∀ u, lookK D (textT x) = some u → ∃ uv, v = .agg #[.string u.nm, uv] ∧ SlIn (· < B) w u.args uv ∧ Ok u) := by
  obtain ⟨L, rfl, h2, h3⟩ := h
  have LK := look_held (z := .agg #[.string ⟨#[]⟩, .slice none 0 0]) h2 ht (by kernel_rfl) ⟨(textT x).toArray⟩ hx
  simp only [lookK_map (fun x : Tm × Value => Value.agg #[.string x.1.nm, x.2])] at LK
  simp only [lookK_map (fun x : Tm × Value => x.1)]
  rw [Option.isSome_map] at LK ⊢
  refine ⟨_, LK, ?_, ?_⟩
  · intro hn
    rw [Option.map_eq_none_iff] at hn
    rw [hn]
    rfl
  · intro u hu
    rw [Option.map_eq_some_iff] at hu
    obtain ⟨y, hy, rfl⟩ := hu
    rw [hy]
    exact ⟨y.2, rfl, (h3 _ (lookK_mem hy)).1, (h3 _ (lookK_mem hy)).2⟩
end UnmA
end Go.Proofs.YtjfgnmmcdgpiiaaGreatDoor
/- Substitutions of variables as functions: their effect on terms, leaves, depths and sizes. No conditions. -/
namespace Go.Proofs.YtjfgnmmcdgpiiaaGreatDoor
open Go
namespace UnuA
open LexM TermM UniM UniC UniG UniH UniO UniY
abbrev Sb := ByteArray → Tm
mutual
/-- A function of the variables, applied to a term. -/
def subT (σ : Sb) : Tm → Tm
  | .mk n l => if l.isEmpty && varB n then σ n else .mk n (subL σ l)
def subL (σ : Sb) : List Tm → List Tm
  | [] => []
  | t :: l => subT σ t :: subL σ l
end
theorem subL_map (σ : Sb) : ∀ l, subL σ l = l.map (subT σ)
  | [] => rfl
  | t :: l => by simp [subL, subL_map σ l]
theorem sub_var (σ : Sb) {n : ByteArray} (h : varB n = true) : subT σ (.mk n []) = σ n := by simp [subT, h]
theorem sub_fun (σ : Sb) (n : ByteArray) (l : List Tm) (h : isV (.mk n l) = false) : subT σ (.mk n l) = .mk n (l.map (subT σ)) := by
  unfold isV at h
  simp only [Tm.args, Tm.nm] at h
  unfold subT
  rw [h, subL_map]
  rfl
theorem isv_args {t : Tm} (h : isV t = true) : t = .mk t.nm [] ∧ varB t.nm = true := by
  obtain ⟨n, l⟩ := t
  obtain ⟨rfl, h⟩ := isv_nil h
  exact ⟨rfl, h⟩
theorem isv_mk {n : ByteArray} (h : varB n = true) : isV (.mk n []) = true := by simp [isV, Tm.args, Tm.nm, h]
theorem isv_cons (n : ByteArray) (x : Tm) (l : List Tm) : isV (.mk n (x :: l)) = false := by simp [isV, Tm.args]
/-- What a list of bindings makes of a variable. -/
def asF (s : List Bd) : Sb := fun v => (lookS s v).getD (.mk v [])
theorem app_sub {s : List Bd} (hV : ∀ b ∈ s, varB b.1 = true) (t : Tm) : appT s t = subT (asF s) t := by
  induction t using Tm.ind with
  | h n l ih =>
    cases hv : isV (.mk n l)
    · rw [app_same hV n l hv, sub_fun _ n l hv]
      congr 1
      exact List.map_congr_left ih
    · obtain ⟨rfl, hn⟩ := isv_nil hv
      rw [sub_var _ hn]
      simp [appT, asF]
theorem leaves_fun (n : ByteArray) {l : List Tm} (h : l ≠ []) : leavesT (.mk n l) = leavesL l := by
  cases l with
  | nil => exact absurd rfl h
  | cons a r => simp [leavesT]
theorem leaf_arg {v n : ByteArray} {l : List Tm} {x : Tm} (hx : x ∈ l) (hv : v ∈ leavesT x) : v ∈ leavesT (.mk n l) := by
  rw [leaves_fun n (by intro h; rw [h] at hx; cases hx)]
  exact leaves_mem.2 ⟨x, hx, hv⟩
/-- A variable that is a leaf of a term that is no variable is a leaf of an argument. -/
theorem leaf_fun {v n : ByteArray} {l : List Tm} (hf : isV (.mk n l) = false) (hv : v ∈ leavesT (.mk n l)) (hb : varB v = true) : ∃ x ∈ l, v ∈ leavesT x := by
  cases l with
  | nil =>
    have : v = n := by simpa [leavesT] using hv
    subst this
    rw [isv_mk hb] at hf
    cases hf
  | cons a r =>
    rw [leaves_fun n (by simp)] at hv
    exact leaves_mem.1 hv
theorem sub_congr {σ τ : Sb} (t : Tm) : (∀ v ∈ leavesT t, varB v = true → σ v = τ v) → subT σ t = subT τ t := by
  induction t using Tm.ind with
  | h n l ih =>
    intro h
    cases hv : isV (.mk n l)
    · rw [sub_fun _ n l hv, sub_fun _ n l hv]
      congr 1
      exact List.map_congr_left fun x hx => ih x hx fun v h1 h2 => h v (leaf_arg hx h1) h2
    · obtain ⟨rfl, hn⟩ := isv_nil hv
      rw [sub_var _ hn, sub_var _ hn]
      exact h n (by simp [leavesT]) hn
theorem sub_id {σ : Sb} (t : Tm) : (∀ v ∈ leavesT t, varB v = true → σ v = .mk v []) → subT σ t = t := by
  induction t using Tm.ind with
  | h n l ih =>
    intro h
    cases hv : isV (.mk n l)
    · rw [sub_fun _ n l hv]
      congr 1
      exact (List.map_congr_left fun x hx => ih x hx fun v h1 h2 => h v (leaf_arg hx h1) h2).trans (List.map_id _)
    · obtain ⟨rfl, hn⟩ := isv_nil hv
      rw [sub_var _ hn]
      exact h n (by simp [leavesT]) hn
theorem map_fix {f : Tm → Tm} : ∀ {l : List Tm}, l.map f = l → ∀ x ∈ l, f x = x
  | [], _, x, hx => by cases hx
  | a :: r, h, x, hx => by
    rw [List.map_cons] at h
    injection h with h1 h2
    rcases List.mem_cons.1 hx with rfl | hx
    · exact h1
    · exact map_fix h2 x hx
theorem map_eq2 {f g : Tm → Tm} : ∀ {l r : List Tm}, l.map f = r.map g → ∀ (i : Nat) (x y : Tm), l[i]? = some x → r[i]? = some y → f x = g y := by
  intro l r h i x y hx hy
  have : (l.map f)[i]? = (r.map g)[i]? := by rw [h]
  rw [List.getElem?_map, List.getElem?_map, hx, hy] at this
  simpa using this
theorem sub_fix {σ : Sb} (t : Tm) : subT σ t = t → ∀ v ∈ leavesT t, varB v = true → σ v = .mk v [] := by
  induction t using Tm.ind with
  | h n l ih =>
    intro h v h1 h2
    cases hv : isV (.mk n l)
    · rw [sub_fun _ n l hv] at h
      injection h with _ h
      obtain ⟨x, hx, hl⟩ := leaf_fun hv h1 h2
      exact ih x hx (map_fix h x hx) v hl h2
    · obtain ⟨rfl, hn⟩ := isv_nil hv
      have : v = n := by simpa [leavesT] using h1
      subst this
      rw [sub_var _ hn] at h
      exact h
theorem sub_comp (σ τ : Sb) (t : Tm) : subT σ (subT τ t) = subT (fun v => subT σ (τ v)) t := by
  induction t using Tm.ind with
  | h n l ih =>
    cases hv : isV (.mk n l)
    · rw [sub_fun _ n l hv, sub_fun _ n l hv]
      have hv' : isV (.mk n (l.map (subT τ))) = false := by
        cases l with
        | nil => exact hv
        | cons a r => exact isv_cons _ _ _
      rw [sub_fun _ _ _ hv', List.map_map]
      congr 1
      exact List.map_congr_left ih
    · obtain ⟨rfl, hn⟩ := isv_nil hv
      rw [sub_var _ hn, sub_var _ hn]
/-! ### Depth and size -/
theorem depthL_mem {x : Tm} : ∀ {l : List Tm}, x ∈ l → depthT x ≤ depthL l
  | [], h => by cases h
  | a :: r, h => by
    unfold depthL
    rcases List.mem_cons.1 h with rfl | h
    · omega
    · have := depthL_mem h; omega
theorem depthL_le {k : Nat} : ∀ {l : List Tm}, (∀ x ∈ l, depthT x ≤ k) → depthL l ≤ k
  | [], _ => by simp [depthL]
  | a :: r, h => by
    unfold depthL
    have h1 := h a (by simp)
    have h2 := depthL_le (l := r) fun x hx => h x (by simp [hx])
    omega
theorem depth_pos (t : Tm) : 1 ≤ depthT t := by
  obtain ⟨n, l⟩ := t
  simp [depthT]
theorem depth_arg {n : ByteArray} {l : List Tm} {x : Tm} (h : x ∈ l) : depthT x + 1 ≤ depthT (.mk n l) := by
  have := depthL_mem h
  simp only [depthT]
  omega
theorem depth_le {n : ByteArray} {l : List Tm} {k : Nat} (h : ∀ x ∈ l, depthT x ≤ k) : depthT (.mk n l) ≤ k + 1 := by
  have := depthL_le h
  simp only [depthT]
  omega
theorem depth_sub (σ : Sb) (t : Tm) : depthT t ≤ depthT (subT σ t) := by
  induction t using Tm.ind with
  | h n l ih =>
    cases hv : isV (.mk n l)
    · rw [sub_fun _ n l hv]
      have h1 : depthL l ≤ depthL (l.map (subT σ)) := depthL_le fun x hx => Nat.le_trans (ih x hx) (depthL_mem (List.mem_map_of_mem hx))
      simp only [depthT]
      omega
    · obtain ⟨rfl, hn⟩ := isv_nil hv
      have := depth_pos (subT σ (.mk n []))
      simp only [depthT, depthL]
      omega
theorem sizeL_mem {x : Tm} : ∀ {l : List Tm}, x ∈ l → sizeT x ≤ sizeL l
  | [], h => by cases h
  | a :: r, h => by
    unfold sizeL
    rcases List.mem_cons.1 h with rfl | h
    · omega
    · have := sizeL_mem h; omega
theorem size_leaf (σ : Sb) (v : ByteArray) (hb : varB v = true) (t : Tm) : v ∈ leavesT t → sizeT (σ v) ≤ sizeT (subT σ t) := by
  induction t using Tm.ind with
  | h n l ih =>
    intro h
    cases hv : isV (.mk n l)
    · obtain ⟨x, hx, hl⟩ := leaf_fun hv h hb
      rw [sub_fun _ n l hv]
      have h1 := ih x hx hl
      have h2 := sizeL_mem (List.mem_map_of_mem (f := subT σ) hx)
      simp only [sizeT]
      omega
    · obtain ⟨rfl, hn⟩ := isv_nil hv
      have : v = n := by simpa [leavesT] using h
      subst this
      rw [sub_var _ hn]
      exact Nat.le_refl _
/-- A variable never becomes a term that it is a part of. -/
theorem occurs_no (σ : Sb) {v : ByteArray} (hb : varB v = true) {t : Tm} (h : v ∈ leavesT t) (hf : isV t = false) : σ v ≠ subT σ t := by
  obtain ⟨n, l⟩ := t
  obtain ⟨x, hx, hl⟩ := leaf_fun hf h hb
  intro e
  have h1 := size_leaf σ v hb x hl
  have h2 := sizeL_mem (List.mem_map_of_mem (f := subT σ) hx)
  rw [sub_fun _ n l hf] at e
  rw [e] at h1
  simp only [sizeT] at h1
  omega
/-! ### Validity -/
theorem valid_mono {g : Bool} : ∀ {d e : Nat} {t : Tm}, d ≤ e → validT g d t = true → validT g e t = true
  | 0, e, t, _, h => by simp [validT] at h
  | d + 1, 0, t, h0, h => by omega
  | d + 1, e + 1, .mk n l, h0, h => by
    unfold validT at h ⊢
    split at h
    · next hl => rw [if_pos hl]; exact h
    · next hl =>
      rw [if_neg hl]
      rw [Bool.and_eq_true] at h ⊢
      refine ⟨h.1, ?_⟩
      rw [List.all_eq_true] at h ⊢
      exact fun x hx => valid_mono (by omega) (h.2 x hx)
theorem valid_depth {g : Bool} : ∀ {d : Nat} {t : Tm}, validT g d t = true → depthT t ≤ d
  | 0, t, h => by simp [validT] at h
  | d + 1, .mk n l, h => by
    unfold validT at h
    split at h
    · next hl =>
      have : l = [] := by simpa using hl
      subst this
      simp [depthT, depthL]
    · rw [Bool.and_eq_true, List.all_eq_true] at h
      exact depth_le fun x hx => valid_depth (h.2 x hx)
theorem valid_at {g : Bool} : ∀ {d k : Nat} {t : Tm}, validT g d t = true → depthT t ≤ k → validT g k t = true
  | 0, k, t, h, _ => by simp [validT] at h
  | d + 1, 0, t, h, h0 => by have := depth_pos t; omega
  | d + 1, k + 1, .mk n l, h, h0 => by
    unfold validT at h ⊢
    split at h
    · next hl => rw [if_pos hl]; exact h
    · next hl =>
      rw [if_neg hl]
      rw [Bool.and_eq_true] at h ⊢
      refine ⟨h.1, ?_⟩
      rw [List.all_eq_true] at h ⊢
      exact fun x hx => valid_at (h.2 x hx) (by have := depth_arg (n := n) hx; omega)
theorem valid_arg {g : Bool} {d : Nat} {n : ByteArray} {l : List Tm} (h : validT g d (.mk n l) = true) {x : Tm} (hx : x ∈ l) : validT g d x = true := by
  cases d with
  | zero => simp [validT] at h
  | succ d =>
    unfold validT at h
    split at h
    · next hl =>
      have : l = [] := by simpa using hl
      subst this
      cases hx
    · rw [Bool.and_eq_true, List.all_eq_true] at h
      exact valid_mono (by omega) (h.2 x hx)
theorem valid_var {v : ByteArray} (h : varB v = true) (d : Nat) : validT false (d + 1) (.mk v []) = true := by simp [validT, h]
theorem name_var {v : ByteArray} (h : varB v = true) : nameB v = false := by
  cases hn : nameB v
  · rfl
  · unfold varB varL at h
    unfold nameB nameL at hn
    simp only [Bool.and_eq_true] at h hn
    have h1 := h.1.2
    have h2 := hn.1.1.2
    revert h1 h2
    cases v.data.toList with
    | nil => intro h; simp [headB] at h
    | cons a r =>
      simp only [headB, upB, loB]
      intro h1 h2
      simp at h1 h2
      omega
/-- A valid term whose name is a variable's is that variable. -/
theorem valid_named {d : Nat} {t : Tm} (h : validT false d t = true) (hv : varB t.nm = true) : t = .mk t.nm [] := by
  obtain ⟨n, l⟩ := t
  cases d with
  | zero => simp [validT] at h
  | succ d =>
    unfold validT at h
    split at h
    · next hl =>
      have : l = [] := by simpa using hl
      subst this
      rfl
    · rw [Bool.and_eq_true, Bool.and_eq_true] at h
      have h1 := name_var hv
      simp only [Tm.nm] at h1
      rw [h1] at h
      exact absurd h.1.2 (by simp)
/-- A valid term stays one where variables become valid terms. -/
theorem valid_sub {σ : Sb} {k : Nat} (hσ : ∀ v, varB v = true → validT false k (σ v) = true) : ∀ {d : Nat} {t : Tm}, validT false d t = true → validT false (d + k) (subT σ t) = true
  | 0, t, h => by simp [validT] at h
  | d + 1, .mk n l, h => by
    cases hv : isV (.mk n l)
    · rw [sub_fun _ n l hv]
      rw [show d + 1 + k = (d + k) + 1 by omega]
      unfold validT at h ⊢
      split at h
      · next hl =>
        have : l = [] := by simpa using hl
        subst this
        exact h
      · next hl =>
        rw [if_neg (by simpa using hl)]
        rw [Bool.and_eq_true, List.all_eq_true] at h ⊢
        refine ⟨by rw [List.length_map]; exact h.1, fun x hx => ?_⟩
        obtain ⟨y, hy, rfl⟩ := List.mem_map.1 hx
        exact valid_sub hσ (h.2 y hy)
    · obtain ⟨rfl, hn⟩ := isv_nil hv
      rw [sub_var _ hn]
      exact valid_mono (by omega) (hσ n hn)
end UnuA
end Go.Proofs.YtjfgnmmcdgpiiaaGreatDoor
/- leads and leader of the code's classes. Conditions: the map's terms have texts of at most a million bytes; the variable nameEnds holds its bytes. -/
namespace Go.Proofs.YtjfgnmmcdgpiiaaGreatDoor
open Go Go.RowKit Go.Maps Go.WideMaps
namespace UnmB
open LexM TermM TermI Kit TermN TermU UniM UniG UniL UniD TermT UnmA
set_option maxRecDepth 100000 in
set_option maxHeartbeats 3200000 in
theorem leads_any (a b : Tm) (p q : Option Addr) (c d : Nat) (w : World) (ha : a.nm.size ≤ maxLen) (hb : b.nm.size ≤ maxLen) :
    Calls Tryz.prog 84 #[.agg #[.string a.nm, .slice p a.args.length c], .agg #[.string b.nm, .slice q b.args.length d]] w fun e w' => e = .returned (.bool (ledB a b)) ∧ Gr w w' := by
  have KA := Lib.hid (fun w' => cvar_t a p c w' ha)
  have KB := Lib.hid (fun w' => cvar_t b q d w' hb)
  obtain ⟨z, hz⟩ : ∃ z, Op.bytesLess a.nm.toList b.nm.toList = z := ⟨_, rfl⟩
  have HZ : ltB a.nm b.nm = z := by unfold ltB; rw [← hz, ByteArray.toList_eq, ByteArray.toList_eq]
  have E : ledB a b = (isV b && (!isV a || z)) := by unfold ledB; rw [HZ]
  rw [E]
  clear E HZ ha hb
  obtain ⟨W2, hW2⟩ : ∃ W2, W2 = (w.alloc (.cells #[.string a.nm, .slice p a.args.length c] 27)).alloc (.cells #[.string b.nm, .slice q b.args.length d] 27) := ⟨_, rfl⟩
  have G2 : Hid (Gr w W2) := Lib.hid (by rw [hW2]; exact (Gr.alloc _ _).more _)
  have H2 : Hid (Has W2 w.heap.size #[.string a.nm, .slice p a.args.length c]) := Lib.hid (by rw [hW2]; exact (Has.new w _ _).alloc _)
  have T2 : Hid (Has W2 (w.heap.size + 1) #[.string b.nm, .slice q b.args.length d]) := Lib.hid (by rw [hW2]; exact Has.new1 w _ _ _)
  have HH := Lib.hid (fun w' (k : Below W2.heap.size W2 w') => And.intro (H2.out.step0 k).two (T2.out.step0 k).two)
  clear H2 T2
  generalize isV a = x at *
  generalize isV b = y at *
  generalize a.nm = an at *
  generalize b.nm = bn at *
  generalize a.args.length = al at *
  generalize b.args.length = bl at *
  obtain ⟨⟨y1, y2, _⟩, z1, z2, _⟩ := HH.out _ (Below.refl _ _)
  go_enter Tryz.func84, Tryz.ntmps84
  go_upto_region 1 with fail
  rw [← hW2]
  clear hW2
  go_wp2_with fail
  refine (KB.out _).mono ?_
  rintro e w3 ⟨rfl, g3⟩
  obtain ⟨⟨y3, y4, _⟩, z3, z4, _⟩ := HH.out _ g3.1
  have D3 := Lib.hid (G2.out.trans g3)
  cases y
  · clear KA y1 y2 z1 z2 g3
    go_wp2_with fail
    go_ret
    exact ⟨rfl, D3.out⟩
  · clear y1 y2 z1 z2
    have S3 := Lib.hid g3
    clear g3
    go_wp2_with fail
    refine (KA.out _).mono ?_
    rintro e w4 ⟨rfl, g4⟩
    obtain ⟨⟨y5, y6, _⟩, z5, z6, _⟩ := HH.out _ (S3.out.trans g4).1
    have D4 := Lib.hid (D3.out.trans g4)
    clear y3 y4 z3 z4 g4 S3 KA KB
    cases x
    · go_wp2_with fail
      go_ret
      exact ⟨rfl, D4.out⟩
    · go_wp2_with fail
      go_ret
      exact ⟨rfl, D4.out⟩
/-- A term, in memory below B. -/
def TmR (r : Tm) (B : Nat) (w : World) (e : Ending) (w' : World) : Prop :=
  ∃ (p : Option Addr) (c : Nat), e = .returned (.agg #[.string r.nm, .slice p r.args.length c]) ∧ SlIn (· < B) w' r.args (.slice p r.args.length c) ∧ Ok r ∧ Below w.heap.size w w'
theorem put_agg {w : World} {g : Nat} {a b : Value} (h : Has w g #[a, b]) (u v : Value) : Has ((w.setCell ⟨g, 0, none⟩ u).setCell ⟨g, 1, none⟩ v) g #[u, v] := (h.set 0 u).set 1 v
theorem far_agg {w : World} {g k : Nat} {cs : Array Value} (hne : g ≠ k) (h : Has w g cs) (u v : Value) : Has ((w.setCell ⟨k, 0, none⟩ u).setCell ⟨k, 1, none⟩ v) g cs := (h.far (p := ⟨k, 0, none⟩) hne u).far (p := ⟨k, 1, none⟩) hne v
theorem slin_far {w : World} {B k : Nat} {l : List Tm} {v : Value} (h : SlIn (· < B) w l v) (hk : B ≤ k) (a b : Value) : SlIn (· < B) ((w.setCell ⟨k, 0, none⟩ a).setCell ⟨k, 1, none⟩ b) l v :=
  h.frame fun g o hg => by rw [cell_far (by show g ≠ k; omega), cell_far (by show g ≠ k; omega)]
set_option maxRecDepth 100000 in
set_option maxHeartbeats 6400000 in
theorem leader_any (D : Cls) (n : Nat) (t r : Tm) (hr : leadP D n t = some r) (B bm : Nat) (w : World) (sv : Value) (hw : Wd w) (hB : B ≤ w.heap.size) (hC : Cl w bm B D) (h : SlIn (· < B) w t.args sv) (ht : Ok t) :
    Calls Tryz.prog 83 #[.map (some bm), .agg #[.string t.nm, sv]] w (TmR r B w) := by
  obtain ⟨p, c, rfl⟩ := h.form
  obtain ⟨W2, hW2⟩ : ∃ W2, W2 = (w.alloc (.cells #[.string t.nm, .slice p t.args.length c] 27)).alloc (.cells #[.string ⟨#[]⟩, .slice none 0 0] 27) := ⟨_, rfl⟩
  have G2 : Hid (Gr w W2) := Lib.hid (by rw [hW2]; exact (Gr.alloc _ _).more _)
  have hs2 : w.heap.size + 2 ≤ W2.heap.size := by rw [hW2]; simp
  have H2 : Hid (Has W2 w.heap.size #[.string t.nm, .slice p t.args.length c]) := Lib.hid (by rw [hW2]; exact (Has.new w _ _).alloc _)
  have E2 : Hid (Has W2 (w.heap.size + 1) #[.string ⟨#[]⟩, .slice none 0 0]) := Lib.hid (by rw [hW2]; exact Has.new1 w _ _ _)
  have S2 := Lib.hid (h.gr G2.out hB)
  have CT := Lib.hid (fun (u : Tm) w' sv (k : Below w.heap.size w w') (h : SlIn (· < B) w' u.args sv) (o : Ok u) => text_any u B w' sv (hw.below k hw.1) (Nat.le_trans hB k.size) h (by have := o.2.1; omega))
  have LK := Lib.hid (fun (u : Tm) w' (k : Below w.heap.size w w') (o : Ok u) => (hC.keep k hB).look Tryz.underlying72 u (by have := o.2.1; unfold maxLen; omega))
  have HT := Lib.hid ht
  have HB := Lib.hid hB
  have HR0 := Lib.hid hr
  clear hC h ht hw hB hr
  unfold TmR
  go_enter Tryz.func83, Tryz.ntmps83
  go_wp2_with fail
  rw [← hW2]
  clear hW2
  go_loopg [] n (fun k wr => ∃ (u : Tm) (q : Option Addr) (d : Nat), leadP D k u = some r ∧ Hid (Has wr w.heap.size #[.string u.nm, .slice q u.args.length d]) ∧ Hid (SlIn (· < B) wr u.args (.slice q u.args.length d)) ∧ Hid (Ok u) ∧ Hid (Has wr (w.heap.size + 1) #[.string ⟨#[]⟩, .slice none 0 0]) ∧ Hid (Below w.heap.size w wr) ∧ w.heap.size + 2 ≤ wr.heap.size)
  case atStart => exact ⟨t, p, c, HR0.out, H2, S2, HT, E2, Lib.hid G2.out.1, hs2⟩
  case round =>
    obtain ⟨u, q, d, hl, HU, SU, OU, EU, DU, hsz⟩ := hrel
    cases gk with
    | zero => simp [leadP] at hl
    | succ k =>
      unfold leadP at hl
      obtain ⟨y1, y2, _⟩ := HU.out.two
      have CT1 := Lib.hid (CT.out u _ _ DU.out SU.out OU.out)
      go_wp2_with fail
      refine CT1.out.mono ?_
      rintro e w3 ⟨rfl, k3⟩
      have D3 := Lib.hid (next0 DU.out k3)
      have H3 := Lib.hid (HU.out.step0 k3)
      have E3 := Lib.hid (EU.out.step0 k3)
      have S3 := Lib.hid (SU.out.deep k3 (Nat.le_trans HB.out DU.out.size))
      have hs3 : w.heap.size + 2 ≤ w3.heap.size := Nat.le_trans hsz k3.size
      obtain ⟨v, hrun, hv0, hv1⟩ := LK.out u w3 D3.out OU.out
      clear y1 y2 k3 CT1 HU EU SU DU
      cases hk : lookK D (textT u) with
      | none =>
        rw [hk] at hl hrun
        obtain rfl : u = r := by simpa using hl
        obtain rfl := hv0 hk
        simp only [Option.isSome_none] at hrun
        clear hv0 hv1 hk hl LK CT
        obtain ⟨W4, hW4⟩ : ∃ W4, W4 = w3.alloc (.cells #[.string ⟨#[]⟩, .slice none 0 0] 27) := ⟨_, rfl⟩
        have H4 : Hid (Has W4 w.heap.size #[.string u.nm, .slice q u.args.length d]) := Lib.hid (by rw [hW4]; exact H3.out.alloc _)
        have E4 : Hid (Has W4 (w.heap.size + 1) #[.string ⟨#[]⟩, .slice none 0 0]) := Lib.hid (by rw [hW4]; exact E3.out.alloc _)
        have D4 : Hid (Below w.heap.size w W4) := Lib.hid (by rw [hW4]; exact next0 D3.out (below_alloc _ _))
        have S4 : Hid (SlIn (· < B) W4 u.args (.slice q u.args.length d)) := Lib.hid (by rw [hW4]; exact S3.out.deep (below_alloc _ _) (Nat.le_trans HB.out D3.out.size))
        obtain ⟨y1, y2, _⟩ := H4.out.two
        obtain ⟨x1, x2, x3, x4, x5⟩ := E4.out.two
        have r := put_agg E4.out (.string u.nm) (.slice q u.args.length d)
        have r1 := r.cell 0
        have r2 := r.cell 1
        simp only [List.getElem?_toArray, List.getElem?_cons_zero, List.getElem?_cons_succ] at r1 r2
        have D5 := Lib.hid ((D4.out.setCell (p := ⟨w.heap.size + 1, 0, none⟩) (by simp) (.string u.nm)).setCell (p := ⟨w.heap.size + 1, 1, none⟩) (by simp) (.slice q u.args.length d))
        have S5 := Lib.hid (slin_far S4.out (show B ≤ w.heap.size + 1 by have := HB.out; omega) (.string u.nm) (.slice q u.args.length d))
        clear r H3 E3 D3 S3 H4 E4 D4 S4
        go_upto_region 2 with fail
        rw [← hW4]
        clear hW4
        go_wp2_with fail
        refine bodyPost_ret (v := .agg #[.string u.nm, .slice q u.args.length d]) (by simp [results, Tryz.results83, go_sem, r1, r2]) rfl ?_
        exact ⟨q, d, rfl, S5.out, OU.out, D5.out⟩
      | some u' =>
        rw [hk] at hl hrun
        obtain ⟨uv, rfl, hsu, hou⟩ := hv1 u' hk
        obtain ⟨q', d', rfl⟩ := hsu.form
        simp only [Option.isSome_some] at hrun
        have SU' := Lib.hid hsu
        have OU' := Lib.hid hou
        clear hv0 hv1 hk hsu hou
        obtain ⟨W4, hW4⟩ : ∃ W4, W4 = w3.alloc (.cells #[.string u'.nm, .slice q' u'.args.length d'] 27) := ⟨_, rfl⟩
        have N4 : Hid (Has W4 w3.heap.size #[.string u'.nm, .slice q' u'.args.length d']) := Lib.hid (by rw [hW4]; exact Has.new _ _ _)
        have H4 : Hid (Has W4 w.heap.size #[.string u.nm, .slice q u.args.length d]) := Lib.hid (by rw [hW4]; exact H3.out.alloc _)
        have E4 : Hid (Has W4 (w.heap.size + 1) #[.string ⟨#[]⟩, .slice none 0 0]) := Lib.hid (by rw [hW4]; exact E3.out.alloc _)
        have D4 : Hid (Below w.heap.size w W4) := Lib.hid (by rw [hW4]; exact next0 D3.out (below_alloc _ _))
        have hs4 : w3.heap.size + 1 = W4.heap.size := by rw [hW4]; simp
        have S4 : Hid (SlIn (· < B) W4 u'.args (.slice q' u'.args.length d')) := Lib.hid (by rw [hW4]; exact SU'.out.deep (below_alloc _ _) (Nat.le_trans HB.out D3.out.size))
        obtain ⟨y1, y2, _⟩ := N4.out.two
        obtain ⟨x1, x2, x3, x4, x5⟩ := H4.out.two
        have H5 := Lib.hid (put_agg H4.out (.string u'.nm) (.slice q' u'.args.length d'))
        have E5 := Lib.hid (far_agg (k := w.heap.size) (by omega) E4.out (.string u'.nm) (.slice q' u'.args.length d'))
        have D5 := Lib.hid ((D4.out.setCell (p := ⟨w.heap.size, 0, none⟩) (by simp) (.string u'.nm)).setCell (p := ⟨w.heap.size, 1, none⟩) (by simp) (.slice q' u'.args.length d'))
        have S5 := Lib.hid (slin_far S4.out (show B ≤ w.heap.size by exact HB.out) (.string u'.nm) (.slice q' u'.args.length d'))
        clear H3 E3 D3 S3 H4 E4 D4 S4 N4 SU'
        go_upto_region 2 with fail
        rw [← hW4]
        clear hW4
        go_wp2_with fail
        go_roundg k
        case measure => omega
        case rel => exact ⟨u', q', d', hl, H5, S5, OU', E5, D5, by simp [World.setCell]; omega⟩
end UnmB
end Go.Proofs.YtjfgnmmcdgpiiaaGreatDoor
/- join of the code's classes. Conditions: texts of at most a million bytes, at most a million entries; the variable nameEnds holds its bytes. -/
namespace Go.Proofs.YtjfgnmmcdgpiiaaGreatDoor
open Go Go.RowKit Go.Maps Go.WideMaps
namespace UnmC
open LexM TermM TermI Kit TermN TermU UniK UniM UniG UniL UniD TermT UnmA UnmB
theorem slin_c {bm B : Nat} {w w' : World} {l : List Tm} {v : Value} (h : SlIn (· < B) w l v) (g : Ch bm w w') (hB : B ≤ bm) (hs : B ≤ w.heap.size) : SlIn (· < B) w' l v :=
  h.frame fun b o hb => g.cell (by omega) (by omega)
theorem wd_c {bm : Nat} {w w' : World} (h : Wd w) (g : Ch bm w w') (hg : 0 < bm) : Wd w' :=
  ⟨Nat.lt_of_lt_of_le h.1 g.size, (g.cell h.1 (by omega)).trans h.2.1, (g.cell h.1 (by omega)).trans h.2.2.1, (g.cell h.1 (by omega)).trans h.2.2.2⟩
set_option maxRecDepth 100000 in
theorem cl_put {w : World} {bm B : Nat} {D : Cls} (h : Cl w bm B D) (hB : B ≤ bm) (hl : D.length < 1000000) {x y : Tm} {xv : Value} (hx : SlIn (· < B) w x.args xv) (ox : Ok x) (oy : Ok y) :
    ∃ w', (Instr.mapUpdate 72 (.map (some bm)) (.string ⟨(textT y).toArray⟩) (.agg #[.string x.nm, xv])).run Tryz.prog w = .ok () w' ∧ Cl w' bm B ((textT y, x) :: D) ∧ Ch bm w w' := by
  have hbm := h.lt
  obtain ⟨L, rfl, h2, h3⟩ := h
  obtain ⟨w', e1, e2, e3⟩ := h2.update TermE.law Tryz.underlying72 (by unfold maxLen; omega) (keyOf_string_mk Tryz.underlying9 (s := ⟨(textT y).toArray⟩) (by have := oy.2.1; unfold maxLen; exact (show (textT y).length ≤ _ by omega))) (show heldE (.agg #[.string x.nm, xv]) = some (.held _, []) from rfl)
  refine ⟨w', e1, ⟨(textT y, x, xv) :: L, rfl, ?_, fun z hz => ?_⟩, e3⟩
  · rw [List.map_cons, List.length_cons]; exact e2
  · rcases List.mem_cons.1 hz with rfl | hz
    · exact ⟨slin_c hx e3 hB (by omega), ox⟩
    · exact ⟨slin_c (h3 z hz).1 e3 hB (by omega), (h3 z hz).2⟩
theorem cl_ch {bm : Nat} {w w' : World} (h : Below w.heap.size w w') : Ch bm w w' := Ch.of h
/-- What join leaves. -/
def JnR (r : Bool) (D' : Cls) (bm B : Nat) (w : World) (e : Ending) (w' : World) : Prop := e = .returned (.bool r) ∧ Cl w' bm B D' ∧ Ch bm w w'
def JnT (n : Nat) : Prop := ∀ (D : Cls) (a b : Tm) (D' : Cls) (r : Bool), joinP n D a b = some (D', r) → D'.length ≤ 1000000 → ∀ (B bm : Nat) (w : World) (av bv : Value), Wd w → 0 < B → B ≤ bm → Cl w bm B D → SlIn (· < B) w a.args av → SlIn (· < B) w b.args bv → Ok a → Ok b →
  Calls Tryz.prog 53 #[.map (some bm), .agg #[.string a.nm, av], .agg #[.string b.nm, bv]] w (JnR r D' bm B w)
theorem joinA_drop {f : Cls → Tm → Tm → Option (Cls × Bool)} {D : Cls} {xs ys : List Tm} {k : Nat} {x y : Tm} (hx : xs[k]? = some x) (hy : ys[k]? = some y) :
    joinA f D (xs.drop k) (ys.drop k) = match f D x y with
      | none => none
      | some (D', false) => some (D', false)
      | some (D', true) => joinA f D' (xs.drop (k + 1)) (ys.drop (k + 1)) := by
  rw [TermQ.drop_get hx, TermQ.drop_get hy]
  rfl
set_option maxRecDepth 100000 in
set_option maxHeartbeats 6400000 in
theorem join_any (n : Nat) : JnT n := by
  induction n with
  | zero => intro D a b D' r h; cases h
  | succ n IH =>
    intro D a b D' r hj hlen B bm w av bv hw hg hBm hC ha hb oa ob
    have hbm := hC.lt
    have hB : B ≤ w.heap.size := by omega
    obtain ⟨pa, ca, rfl⟩ := ha.form
    obtain ⟨pb, cb, rfl⟩ := hb.form
    obtain ⟨x, hx⟩ : ∃ x, leadP D n a = some x := by
      unfold joinP at hj
      cases h : leadP D n a with
      | none => rw [h] at hj; cases hj
      | some x => exact ⟨x, rfl⟩
    obtain ⟨y, hy⟩ : ∃ y, leadP D n b = some y := by
      unfold joinP at hj
      cases h : leadP D n b with
      | none => rw [hx, h] at hj; cases hj
      | some x => exact ⟨x, rfl⟩
    have HJ : Hid ((if cmpT x y = 0 then some (D, true) else if ledB y x = true then joinB (joinP n) D y x else joinB (joinP n) D x y) = some (D', r)) := Lib.hid (by
      unfold joinP at hj; rw [hx, hy] at hj; exact hj)
    obtain ⟨W2, hW2⟩ : ∃ W2, W2 = (w.alloc (.cells #[.string a.nm, .slice pa a.args.length ca] 27)).alloc (.cells #[.string b.nm, .slice pb b.args.length cb] 27) := ⟨_, rfl⟩
    have G2 : Hid (Gr w W2) := Lib.hid (by rw [hW2]; exact (Gr.alloc _ _).more _)
    have B2 : Hid (Below w.heap.size w W2) := Lib.hid G2.out.1
    have hs2 : w.heap.size + 2 ≤ W2.heap.size := by rw [hW2]; simp
    have H2 : Hid (Has W2 w.heap.size #[.string a.nm, .slice pa a.args.length ca]) := Lib.hid (by rw [hW2]; exact (Has.new w _ _).alloc _)
    have T2 : Hid (Has W2 (w.heap.size + 1) #[.string b.nm, .slice pb b.args.length cb]) := Lib.hid (by rw [hW2]; exact Has.new1 w _ _ _)
    have LA := Lib.hid (fun w' (k : Below w.heap.size w w') => leader_any D n a x hx B bm w' _ (hw.below k hw.1) (Nat.le_trans hB k.size) (hC.keep k hB) (ha.deep k hB) oa)
    have LB := Lib.hid (fun w' (k : Below w.heap.size w w') => leader_any D n b y hy B bm w' _ (hw.below k hw.1) (Nat.le_trans hB k.size) (hC.keep k hB) (hb.deep k hB) ob)
    have CK := Lib.hid (fun w' (k : Below w.heap.size w w') => And.intro (hC.keep k hB) (hw.below k hw.1))
    have HB := Lib.hid hB
    have HBM := Lib.hid hBm
    have HWD := Lib.hid (fun w' (g : Ch bm w w') => wd_c hw g (by omega))
    have HG := Lib.hid hg
    have HLN := Lib.hid hlen
    have hbm2 := hbm
    have HIH := Lib.hid IH
    clear IH hC ha hb hw hj hx hy hB hBm hg oa ob
    unfold TmR at LA LB
    unfold JnR
    generalize a.nm = an at *
    generalize a.args.length = al at *
    generalize b.nm = bn at *
    generalize b.args.length = bl at *
    obtain ⟨y1, y2, y3, y4, y5⟩ := H2.out.two
    obtain ⟨z1, z2, z3, z4, z5⟩ := T2.out.two
    go_enter Tryz.func53, Tryz.ntmps53
    go_upto_region 1 with fail
    rw [← hW2]
    clear hW2
    go_cut [] (fun wx => ∃ (p3 : Option Addr) (c3 : Nat) (p4 : Option Addr) (c4 : Nat), Hid (Has wx w.heap.size #[.string x.nm, .slice p3 x.args.length c3]) ∧ Hid (Has wx (w.heap.size + 1) #[.string y.nm, .slice p4 y.args.length c4]) ∧ Hid (SlIn (· < B) wx x.args (.slice p3 x.args.length c3)) ∧ Hid (SlIn (· < B) wx y.args (.slice p4 y.args.length c4)) ∧ Hid (Ok x ∧ Ok y) ∧ Hid (Below w.heap.size w wx) ∧ w.heap.size + 2 ≤ wx.heap.size)
    case first =>
      clear HJ CK HIH
      go_region_law (first
        | (go_simp; go_at_call 83; (with_reducible refine (LA.out _ (by first | exact B2.out | exact B2.out.drew | exact below_drewN B2.out _)).mono ?_); rintro e w3 ⟨p3, c3, rfl, s3, o3, b3⟩; have B3 : Hid (Below w.heap.size w w3) := Lib.hid (by first | exact next0 B2.out b3 | exact next0 B2.out.drew b3 | exact next0 (below_drewN B2.out _) b3); have K3 : Hid (Below W2.heap.size W2 w3) := Lib.hid (by first | exact b3 | exact next0 (Below.refl _ _).drew b3 | exact next0 (below_drewN (Below.refl _ _) _) b3); have H3 := Lib.hid (H2.out.step0 K3.out); have T3 := Lib.hid (T2.out.step0 K3.out); have S3 := Lib.hid s3; have O3 := Lib.hid o3; clear s3 o3 b3 y1 y2 y3 y4 y5 z1 z2 z3 z4 z5; obtain ⟨z1, z2, z3, z4, z5⟩ := T3.out.two)
        | (go_simp; go_at_call 83; (with_reducible refine (LB.out _ (by first | exact B3.out | exact B3.out.drew | exact below_drewN B3.out _)).mono ?_); rintro e w4 ⟨p4, c4, rfl, s4, o4, b4⟩; have B4 : Hid (Below w.heap.size w w4) := Lib.hid (by first | exact next0 B3.out b4 | exact next0 B3.out.drew b4 | exact next0 (below_drewN B3.out _) b4); have K4 : Hid (Below w3.heap.size w3 w4) := Lib.hid (by first | exact b4 | exact next0 (Below.refl _ _).drew b4 | exact next0 (below_drewN (Below.refl _ _) _) b4); have S4 := Lib.hid s4; have O4 := Lib.hid o4; have S3' := Lib.hid (S3.out.deep K4.out (Nat.le_trans HB.out B3.out.size)); have H4 := Lib.hid (H3.out.step0 K4.out); have T4 := Lib.hid (T3.out.step0 K4.out); clear s4 o4 b4 z1 z2 z3 z4 z5; obtain ⟨y1, y2, y3, y4, y5⟩ := H4.out.two; obtain ⟨z1, z2, z3, z4, z5⟩ := T4.out.two; have a1 := H4.out.put0 (.string x.nm) (.slice p3 x.args.length c3); have a2 := H4.out.put1 (.string x.nm) (.slice p3 x.args.length c3)))
      all_goals
        go_wp2_with fail
        go_meet
        exact ⟨p3, c3, p4, c4, Lib.hid (far_agg (k := w.heap.size + 1) (by omega) (put_agg H4.out _ _) _ _), Lib.hid (put_agg (far_agg (k := w.heap.size) (by omega) T4.out _ _) _ _), Lib.hid (slin_far (slin_far S3'.out HB.out _ _) (show B ≤ w.heap.size + 1 by have := HB.out; omega) _ _), Lib.hid (slin_far (slin_far S4.out HB.out _ _) (show B ≤ w.heap.size + 1 by have := HB.out; omega) _ _), Lib.hid ⟨O3.out, O4.out⟩, Lib.hid ((((B4.out.setCell (p := ⟨w.heap.size, 0, none⟩) (by simp) _).setCell (p := ⟨w.heap.size, 1, none⟩) (by simp) _).setCell (p := ⟨w.heap.size + 1, 0, none⟩) (by simp) _).setCell (p := ⟨w.heap.size + 1, 1, none⟩) (by simp) _), by have := K3.out.size; have := K4.out.size; simp [World.setCell]; omega⟩
    case rest =>
      obtain ⟨p3, c3, p4, c4, HA, HY, S3, S4, OO, K1, hs1⟩ := hcut
      clear LA LB G2 B2 H2 T2 y1 y2 y3 y4 y5 z1 z2 z3 z4 z5 hs2
      obtain ⟨y1, y2, _⟩ := HA.out.two
      obtain ⟨z1, z2, _⟩ := HY.out.two
      have CC := Lib.hid (TermR.cmp_any x B wc (.slice p3 x.args.length c3) y (.slice p4 y.args.length c4) (Nat.le_trans HB.out K1.out.size) OO.out.1.1 OO.out.2.1 S3.out S4.out)
      have CL := Lib.hid (fun w' => leads_any y x p4 p3 c4 c3 w' OO.out.2.1 OO.out.1.1)
      obtain ⟨z, hz⟩ : ∃ z, (cmpT x y == 0) = z := ⟨_, rfl⟩
      have HJ2 : Hid ((if z = true then some (D, true) else if ledB y x = true then joinB (joinP n) D y x else joinB (joinP n) D x y) = some (D', r)) := Lib.hid (by
        rw [← hz]
        have := HJ.out
        by_cases h : cmpT x y = 0
        · rw [if_pos h] at this; simpa [h] using this
        · rw [if_neg h] at this; simpa [h] using this)
      clear HJ
      obtain ⟨L, hL⟩ : ∃ L, ledB y x = L := ⟨_, rfl⟩
      rw [hL] at HJ2 CL
      clear hL
      generalize cmpT x y = cc at *
      go_wp2_with fail
      refine CC.out.mono ?_
      rintro e w5 ⟨rfl, g5⟩
      have K5 := Lib.hid (next0 K1.out g5.1)
      have HA5 := Lib.hid (HA.out.step0 g5.1)
      have HY5 := Lib.hid (HY.out.step0 g5.1)
      have S35 := Lib.hid (S3.out.deep g5.1 (Nat.le_trans HB.out K1.out.size))
      have S45 := Lib.hid (S4.out.deep g5.1 (Nat.le_trans HB.out K1.out.size))
      have hs5 : w.heap.size + 2 ≤ w5.heap.size := Nat.le_trans hs1 g5.1.size
      clear CC HA HY S3 S4 K1 hs1 g5 y1 y2 z1 z2
      obtain ⟨y1, y2, _⟩ := HA5.out.two
      obtain ⟨z1, z2, _⟩ := HY5.out.two
      cases z
      case true =>
        have e9 := HJ2.out
        rw [if_pos rfl] at e9
        cases e9
        go_wp2_with fail
        go_ret
        exact ⟨rfl, (CK.out _ K5.out).1, Ch.of K5.out⟩
      case false =>
        have HJ3 : Hid ((if L = true then joinB (joinP n) D y x else joinB (joinP n) D x y) = some (D', r)) := Lib.hid (by have e9 := HJ2.out; rwa [if_neg (by simp)] at e9)
        clear HJ2
        go_wp2_with fail
        refine (CL.out _).mono ?_
        rintro e w6 ⟨rfl, g6⟩
        have K6 := Lib.hid (next0 K5.out g6.1)
        have HA6 := Lib.hid (HA5.out.step0 g6.1)
        have HY6 := Lib.hid (HY5.out.step0 g6.1)
        have S36 := Lib.hid (S35.out.deep g6.1 (Nat.le_trans HB.out K5.out.size))
        have S46 := Lib.hid (S45.out.deep g6.1 (Nat.le_trans HB.out K5.out.size))
        have hs6 : w.heap.size + 2 ≤ w6.heap.size := Nat.le_trans hs5 g6.1.size
        clear CL HA5 HY5 S35 S45 K5 hs5 g6 y1 y2 z1 z2
        go_upto_if 20 with fail
        go_cut [] (fun wx => ∃ (X Y : Tm) (pX : Option Addr) (cX : Nat) (pY : Option Addr) (cY : Nat), Hid (joinB (joinP n) D X Y = some (D', r)) ∧ Hid (Has wx w.heap.size #[.string X.nm, .slice pX X.args.length cX]) ∧ Hid (Has wx (w.heap.size + 1) #[.string Y.nm, .slice pY Y.args.length cY]) ∧ Hid (SlIn (· < B) wx X.args (.slice pX X.args.length cX)) ∧ Hid (SlIn (· < B) wx Y.args (.slice pY Y.args.length cY)) ∧ Hid (Ok X ∧ Ok Y) ∧ Hid (Below w.heap.size w wx) ∧ w.heap.size + 2 ≤ wx.heap.size)
        case first =>
          cases L
          · have e9 := HJ3.out
            rw [if_neg (by simp)] at e9
            go_wp2_with fail
            go_meet
            exact ⟨x, y, p3, c3, p4, c4, Lib.hid e9, HA6, HY6, S36, S46, OO, K6, hs6⟩
          · have e9 := HJ3.out
            rw [if_pos rfl] at e9
            have E9 := Lib.hid e9
            clear e9 HJ3
            obtain ⟨y1, y2, y3, y4, y5⟩ := HA6.out.two
            obtain ⟨z1, z2, z3, z4, z5⟩ := HY6.out.two
            have FA := Lib.hid (far_agg (k := w.heap.size + 1) (by omega) (put_agg HA6.out (.string y.nm) (.slice p4 y.args.length c4)) (.string x.nm) (.slice p3 x.args.length c3))
            have FB := Lib.hid (put_agg (far_agg (k := w.heap.size) (by omega) HY6.out (.string y.nm) (.slice p4 y.args.length c4)) (.string x.nm) (.slice p3 x.args.length c3))
            have KW := Lib.hid ((((K6.out.setCell (p := ⟨w.heap.size, 0, none⟩) (by simp) (.string y.nm)).setCell (p := ⟨w.heap.size, 1, none⟩) (by simp) (.slice p4 y.args.length c4)).setCell (p := ⟨w.heap.size + 1, 0, none⟩) (by simp) (.string x.nm)).setCell (p := ⟨w.heap.size + 1, 1, none⟩) (by simp) (.slice p3 x.args.length c3))
            have SA := Lib.hid (slin_far (slin_far S36.out HB.out (.string y.nm) (.slice p4 y.args.length c4)) (show B ≤ w.heap.size + 1 by have := HB.out; omega) (.string x.nm) (.slice p3 x.args.length c3))
            have SB := Lib.hid (slin_far (slin_far S46.out HB.out (.string y.nm) (.slice p4 y.args.length c4)) (show B ≤ w.heap.size + 1 by have := HB.out; omega) (.string x.nm) (.slice p3 x.args.length c3))
            clear HA6 HY6 S36 S46 K6
            go_wp2_with fail
            go_meet
            exact ⟨y, x, p4, c4, p3, c3, E9, FA, FB, SB, SA, Lib.hid ⟨OO.out.2, OO.out.1⟩, KW, by simp [World.setCell]; omega⟩
        case rest =>
          obtain ⟨X, Y, pX, cX, pY, cY, HJ4, HX, HY, SX, SY, OO4, K4, hs4⟩ := hcut
          have hDl : D.length + 1 ≤ D'.length := joinB_len (joinP_len n) HJ4.out
          clear HJ3 HA6 HY6 S36 S46 K6 hs6 OO
          obtain ⟨y1, y2, _⟩ := HX.out.two
          obtain ⟨z1, z2, _⟩ := HY.out.two
          have CT := Lib.hid (fun w' (k : Below wc.heap.size wc w') => text_any Y B w' _ ((CK.out w' (next0 K4.out k)).2) (Nat.le_trans HB.out (next0 K4.out k).size) (SY.out.deep k (Nat.le_trans HB.out K4.out.size)) (by have := OO4.out.2.2.1; omega))
          go_upto_region 6 with fail
          go_cut [] (fun wx => Hid (Cl wx bm B ((textT Y, X) :: D)) ∧ Hid (Ch bm wc wx))
          case first =>
            go_region_law (first
              | (go_simp; go_at_call 85; (with_reducible refine (CT.out _ (by first | exact Below.refl _ _ | exact (Below.refl _ _).drew | exact below_drewN (Below.refl _ _) _)).mono ?_); rintro e w7 ⟨rfl, b7⟩; have B7 : Hid (Below wc.heap.size wc w7) := Lib.hid (by first | exact b7 | exact next0 (Below.refl _ _).drew b7 | exact next0 (below_drewN (Below.refl _ _) _) b7); clear b7 y1 y2 z1 z2; obtain ⟨y1, y2, _⟩ := (HX.out.step0 B7.out).two; obtain ⟨w8, hrun, hC8, hh8⟩ := cl_put (CK.out w7 (next0 K4.out B7.out)).1 HBM.out (by have := HLN.out; omega) (SX.out.deep B7.out (Nat.le_trans HB.out K4.out.size)) OO4.out.1 OO4.out.2; have C8 := Lib.hid hC8; have K8 := Lib.hid hh8; clear hC8 hh8))
            all_goals
              go_wp2_with fail
              go_meet
              exact ⟨C8, Lib.hid ((Ch.of B7.out).trans K8.out)⟩
          case rest =>
            obtain ⟨C5, H5⟩ := hcut
            obtain ⟨wd, hwd⟩ : ∃ wd, wd = wc := ⟨_, rfl⟩
            have HX5 := Lib.hid (H5.out.has HX.out (by omega))
            have HY5 := Lib.hid (H5.out.has HY.out (by omega))
            have F5 := Lib.hid ((Ch.of (r := bm) K4.out).trans H5.out)
            have SX5 := Lib.hid (slin_c SX.out H5.out HBM.out (Nat.le_trans HB.out K4.out.size))
            have SY5 := Lib.hid (slin_c SY.out H5.out HBM.out (Nat.le_trans HB.out K4.out.size))
            have hs5 : w.heap.size + 2 ≤ wc.heap.size := Nat.le_trans hs4 H5.out.size
            have DL5 : Hid (((textT Y, X) :: D : Cls).length ≤ D'.length) := Lib.hid (by simpa using hDl)
            clear y1 y2 z1 z2 CT HX HY SX SY K4 hs4 H5 CK hDl hwd wd
            unfold joinB at HJ4
            generalize ((textT Y, X) :: D : Cls) = D1 at *
            have KV := Lib.hid (fun w' => cvar_t Y pY cY w' OO4.out.2.1)
            have KH := Lib.hid (fun w' => head_any X.nm Y.nm pX pY X.args.length cX Y.args.length cY w')
            have EH : Hid (headE X Y = (eqB X.nm Y.nm && decide (X.args.length = Y.args.length))) := Lib.hid rfl
            rw [← EH.out] at KH
            obtain ⟨v, hv⟩ : ∃ v, isV Y = v := ⟨_, rfl⟩
            obtain ⟨h, hh⟩ : ∃ h, headE X Y = h := ⟨_, rfl⟩
            rw [hv] at HJ4 KV
            rw [hh] at HJ4 KH EH
            clear hv hh
            obtain ⟨y1, y2, _⟩ := HX5.out.two
            obtain ⟨z1, z2, _⟩ := HY5.out.two
            go_wp2_with fail
            refine (KV.out _).mono ?_
            rintro e w6 ⟨rfl, g6⟩
            have C6 := Lib.hid (C5.out.keep g6.1 (Nat.le_trans HB.out F5.out.size))
            have F6 := Lib.hid (F5.out.below g6.1)
            have HX6 := Lib.hid (HX5.out.step0 g6.1)
            have HY6 := Lib.hid (HY5.out.step0 g6.1)
            have SX6 := Lib.hid (SX5.out.deep g6.1 (Nat.le_trans HB.out F5.out.size))
            have SY6 := Lib.hid (SY5.out.deep g6.1 (Nat.le_trans HB.out F5.out.size))
            have hs6 : w.heap.size + 2 ≤ w6.heap.size := Nat.le_trans hs5 g6.1.size
            clear C5 F5 HX5 HY5 SX5 SY5 hs5 g6 y1 y2 z1 z2 KV
            obtain ⟨y1, y2, _⟩ := HX6.out.two
            obtain ⟨z1, z2, _⟩ := HY6.out.two
            cases v
            case true =>
              have e9 := HJ4.out
              rw [if_pos rfl] at e9
              cases e9
              go_wp2_with fail
              go_ret
              exact ⟨rfl, C6.out, F6.out⟩
            case false =>
              have HJ5 : Hid ((if h = true then joinA (joinP n) D1 X.args Y.args else some (D1, false)) = some (D', r)) := Lib.hid (by have e9 := HJ4.out; rwa [if_neg (by simp)] at e9)
              clear HJ4
              go_wp2_with fail
              refine (KH.out _).mono ?_
              rintro e w7 ⟨rfl, g7⟩
              have C7 := Lib.hid (C6.out.keep g7.1 (Nat.le_trans HB.out F6.out.size))
              have F7 := Lib.hid (F6.out.below g7.1)
              have HX7 := Lib.hid (HX6.out.step0 g7.1)
              have HY7 := Lib.hid (HY6.out.step0 g7.1)
              have SX7 := Lib.hid (SX6.out.deep g7.1 (Nat.le_trans HB.out F6.out.size))
              have SY7 := Lib.hid (SY6.out.deep g7.1 (Nat.le_trans HB.out F6.out.size))
              have hs7 : w.heap.size + 2 ≤ w7.heap.size := Nat.le_trans hs6 g7.1.size
              clear C6 F6 HX6 HY6 SX6 SY6 hs6 g7 y1 y2 z1 z2 KH
              obtain ⟨y1, y2, _⟩ := HX7.out.two
              cases h
              case false =>
                have e9 := HJ5.out
                rw [if_neg (by simp)] at e9
                cases e9
                go_wp2_with fail
                go_ret
                exact ⟨rfl, C7.out, F7.out⟩
              case true =>
                have e9 := HJ5.out
                rw [if_pos rfl] at e9
                have HE : Hid (joinA (joinP n) D1 (X.args.drop 0) (Y.args.drop 0) = some (D', r)) := Lib.hid e9
                have hab : X.args.length = Y.args.length := by
                  have := EH.out.symm
                  rw [Bool.and_eq_true, decide_eq_true_eq] at this
                  exact this.2
                have hm63 : X.args.length ≤ 9223372036854775807 := by
                  obtain ⟨_, _, _, _, hc1, hc2, _⟩ := SX7.out.row
                  unfold maxLen at hc2
                  omega
                have JA : Hid (∀ (D9 : Cls) (xs ys : List Tm) (D8 : Cls) (r8 : Bool), joinA (joinP n) D9 xs ys = some (D8, r8) → D9.length ≤ D8.length) := Lib.hid (fun D9 xs ys D8 r8 h => joinA_len (joinP_len n) xs ys D9 D8 r8 h)
                have AX := Lib.hid (fun (x : Tm) (hx : x ∈ X.args) (hn : x.nm.size ≤ maxLen) => OO4.out.1.arg hx hn)
                have AY := Lib.hid (fun (x : Tm) (hx : x ∈ Y.args) (hn : x.nm.size ≤ maxLen) => OO4.out.2.arg hx hn)
                rw [← hab] at HY7 SY7
                have HAB := Lib.hid hab
                clear e9 HJ5 EH hab
                generalize hma : X.args.length = m at *
                have HMA := Lib.hid hma
                clear hma
                go_wp2_with fail
                clear y1 y2
                go_loopw [36] (fun i wr => ∃ (k : Nat) (Dk : Cls), k ≤ m ∧ i = .int .i64 k ∧ Hid (joinA (joinP n) Dk (X.args.drop k) (Y.args.drop k) = some (D', r)) ∧ Hid (Cl wr bm B Dk) ∧ Hid (Ch bm w7 wr)) (fun i _ => m - (intOf i).toNat)
                case atStart => exact ⟨0, D1, Nat.zero_le _, rfl, HE, C7, Lib.hid (Ch.refl _ _)⟩
                case round =>
                  obtain ⟨k, Dk, hk, rfl, hE, hC, hF⟩ := hrel
                  by_cases hlt : k < m
                  · have HXr := Lib.hid (hF.out.has HX7.out (by omega))
                    have HYr := Lib.hid (hF.out.has HY7.out (by omega))
                    have SXr := Lib.hid (slin_c SX7.out hF.out HBM.out (Nat.le_trans HB.out F7.out.size))
                    have SYr := Lib.hid (slin_c SY7.out hF.out HBM.out (Nat.le_trans HB.out F7.out.size))
                    obtain ⟨p', c', e1, _, _, _, hR⟩ := SXr.out.row
                    rw [HMA.out] at e1
                    injection e1 with e1 _ e2
                    subst e1 e2
                    obtain ⟨x9, b, o, q, d, hx9, rfl, hb, u1, u2, hxs, hxn⟩ := hR k (by rw [HMA.out]; exact hlt)
                    obtain ⟨p', c', e1, _, _, _, hR'⟩ := SYr.out.row
                    rw [← HAB.out] at e1
                    injection e1 with e1 _ e2
                    subst e1 e2
                    obtain ⟨y9, b2, o2, q2, d2, hy9, rfl, hb2, v1, v2, hys, hyn⟩ := hR' k (by rw [← HAB.out]; exact hlt)
                    obtain ⟨z1, z2, _⟩ := HXr.out.two
                    obtain ⟨z3, z4, _⟩ := HYr.out.two
                    have E9 := hE.out
                    rw [joinA_drop hx9 hy9] at E9
                    have O1 := AX.out x9 (List.mem_of_getElem? hx9) hxn
                    have O2 := AY.out y9 (List.mem_of_getElem? hy9) hyn
                    obtain ⟨D2, t, hj9, hl9, hn9⟩ : ∃ D2 t, joinP n Dk x9 y9 = some (D2, t) ∧ D2.length ≤ D'.length ∧ Hid ((t = false → D2 = D' ∧ r = false) ∧ (t = true → joinA (joinP n) D2 (X.args.drop (k + 1)) (Y.args.drop (k + 1)) = some (D', r))) := by
                      cases hj : joinP n Dk x9 y9 with
                      | none => rw [hj] at E9; cases E9
                      | some z =>
                        obtain ⟨D2, t⟩ := z
                        rw [hj] at E9
                        cases t with
                        | false => cases E9; exact ⟨_, _, rfl, Nat.le_refl _, Lib.hid ⟨fun _ => ⟨rfl, rfl⟩, fun h => (by cases h)⟩⟩
                        | true => exact ⟨_, _, rfl, JA.out _ _ _ _ _ E9, Lib.hid ⟨fun h => (by cases h), fun _ => E9⟩⟩
                    have CI := Lib.hid (fun w' (g : Below wr.heap.size wr w') => HIH.out Dk x9 y9 D2 t hj9 (Nat.le_trans hl9 HLN.out) B bm w' _ _ (HWD.out w' ((F7.out.trans hF.out).below g)) HG.out HBM.out (hC.out.keep g (Nat.le_trans HB.out (F7.out.trans hF.out).size)) (hxs.deep g (Nat.le_trans HB.out (F7.out.trans hF.out).size)) (hys.deep g (Nat.le_trans HB.out (F7.out.trans hF.out).size)) O1 O2)
                    clear hx9 hy9 hxs hys hxn hyn O1 O2 E9 hj9 hl9 hE hC hR hR' SXr SYr
                    unfold JnR at CI
                    generalize x9.nm = xn at *
                    generalize x9.args.length = xa at *
                    generalize y9.nm = yn at *
                    generalize y9.args.length = ya at *
                    go_upto_region 14 with fail
                    go_region_with (first
                      | (go_at_call 53; (with_reducible refine (CI.out _ (by first | exact Below.refl _ _ | exact (Below.refl _ _).drew | exact below_drewN (Below.refl _ _) _)).mono ?_); rintro e w8 ⟨rfl, h8, k8⟩; have C8 := Lib.hid h8; have K8 : Hid (Ch bm wr w8) := Lib.hid (by first | exact k8 | exact (Ch.of (Below.refl _ _).drew).trans k8 | exact (Ch.of (below_drewN (Below.refl _ _) _)).trans k8); clear h8 k8))
                    all_goals
                      cases t
                      · obtain ⟨rfl, rfl⟩ := hn9.out.1 rfl
                        go_wp2_with fail
                        go_ret
                        exact ⟨rfl, C8.out, (F7.out.trans hF.out).trans K8.out⟩
                      · have EN := Lib.hid (hn9.out.2 rfl)
                        clear hn9
                        go_wp2_with fail
                        go_roundw
                        case rel => exact ⟨k + 1, D2, by omega, by go_num, EN, C8, Lib.hid (hF.out.trans K8.out)⟩
                        case measure => simp [intOf]; omega
                  · obtain rfl : k = m := by omega
                    have e9 := hE.out
                    rw [← HMA.out, List.drop_length, HMA.out, HAB.out, List.drop_length] at e9
                    cases e9
                    go_wp2_with fail
                    go_ret
                    exact ⟨rfl, hC.out, F7.out.trans hF.out⟩
end UnmC
end Go.Proofs.YtjfgnmmcdgpiiaaGreatDoor
/- resolve of the code's classes. Conditions: texts of at most a million bytes; the variable nameEnds holds its bytes. Made by genunmd.py. -/
namespace Go.Proofs.YtjfgnmmcdgpiiaaGreatDoor
open Go Go.RowKit Go.Maps Go.WideMaps
namespace UnmD
open LexM TermM TermI Kit TermN TermU UniK UniM UniG UniL UniD UniH TermT UnmA UnmB UnmC
theorem leaf_nil (n : ByteArray) (w : World) : Calls Tryz.prog 57 #[.string n] w fun e w' => e = .returned (.agg #[.string n, .slice none 0 0]) ∧ Below w.heap.size w w' := by
  go_enter Tryz.func57, Tryz.ntmps57
  go_wp2_with fail
  refine bodyPost_ret (v := .agg #[.string n, .slice none 0 0]) (by simp [results, Tryz.results57, go_sem]) rfl ?_
  exact ⟨rfl, below_alloc w _⟩
theorem mapO_len {α β : Type} {f : α → Option β} : ∀ {l : List α} {r : List β}, mapO f l = some r → r.length = l.length
  | [], r, h => by cases h; rfl
  | x :: l, r, h => by
    unfold mapO at h
    cases h1 : f x with
    | none => rw [h1] at h; cases h
    | some y =>
      cases h2 : mapO f l with
      | none => rw [h1, h2] at h; cases h
      | some r' =>
        rw [h1, h2] at h
        cases h
        simp [mapO_len h2]
theorem mapO_take {α β : Type} {f : α → Option β} : ∀ {l : List α} {r : List β}, mapO f l = some r → ∀ (k : Nat) (x : α), l[k]? = some x → ∃ y, r[k]? = some y ∧ f x = some y
  | [], r, h => by intro k x hx; simp at hx
  | x :: l, r, h => by
    unfold mapO at h
    cases h1 : f x with
    | none => rw [h1] at h; cases h
    | some y =>
      cases h2 : mapO f l with
      | none => rw [h1, h2] at h; cases h
      | some r' =>
        rw [h1, h2] at h
        cases h
        intro k z hz
        cases k with
        | zero => simp at hz; subst hz; exact ⟨y, rfl, h1⟩
        | succ k => exact mapO_take h2 k z (by simpa using hz)
set_option maxRecDepth 100000 in
set_option maxHeartbeats 6400000 in
theorem res_any (D : Cls) (n d : Nat) : d ≤ 100 → ∀ (t u : Tm), resP D n d t = some u → ∀ (B bm : Nat) (w : World) (tv : Value), Wd w → B ≤ w.heap.size → Cl w bm B D → SlIn (· < B) w t.args tv → Ok t →
    Calls Tryz.prog 56 #[.map (some bm), .agg #[.string t.nm, tv], .int .i64 d] w (RApR 0 u w) := by
  obtain ⟨i0, hi, hz0, hz1, hz2⟩ := info_parts Tryz.info28
  induction d with
  | zero =>
    intro hd t u hr B bm w tv hw hB hC h ot
    obtain ⟨p, c, rfl⟩ := h.form
    obtain ⟨x, hx⟩ : ∃ x, leadP D n t = some x := by
      unfold resP at hr
      cases h : leadP D n t with
      | none => rw [h] at hr; cases hr
      | some x => exact ⟨x, rfl⟩
    obtain ⟨W2, hW2⟩ : ∃ W2, W2 = (w.alloc (.cells #[.string t.nm, .slice p t.args.length c] 27)).alloc (.cells #[.string ⟨#[]⟩, .slice none 0 0] 27) := ⟨_, rfl⟩
    have B2 : Hid (Below w.heap.size w W2) := Lib.hid (by rw [hW2]; exact ((Gr.alloc _ _).more _).1)
    have hs2 : w.heap.size + 2 ≤ W2.heap.size := by rw [hW2]; simp
    have H2 : Hid (Has W2 w.heap.size #[.string t.nm, .slice p t.args.length c]) := Lib.hid (by rw [hW2]; exact (Has.new w _ _).alloc _)
    have E2 : Hid (Has W2 (w.heap.size + 1) #[.string ⟨#[]⟩, .slice none 0 0]) := Lib.hid (by rw [hW2]; exact Has.new1 w _ _ _)
    have LA := Lib.hid (fun w' (k : Below w.heap.size w w') => leader_any D n t x hx B bm w' _ (hw.below k hw.1) (Nat.le_trans hB k.size) (hC.keep k hB) (h.deep k hB) ot)
    have HB := Lib.hid hB
    unfold TmR at LA
    unfold RApR
    have e9 : u = .mk x.nm [] := by
      unfold resP at hr
      rw [hx] at hr
      simpa using hr.symm
    generalize t.nm = tn at *
    generalize t.args.length = tl at *
    generalize hxn : x.nm = xn at *
    have HXN := Lib.hid hxn
    generalize hm : x.args.length = m at *
    have HM := Lib.hid hm
    subst e9
    clear hC h hw hr hx hm
    dsimp only [Tm.nm, Tm.args, List.length_nil]
    obtain ⟨y1, y2, y3, y4, y5⟩ := H2.out.two
    go_enter Tryz.func56, Tryz.ntmps56
    go_upto_region 1 with fail
    rw [← hW2]
    clear hW2
    go_wp2_with fail
    refine (LA.out _ B2.out).mono ?_
    rintro e w3 ⟨p3, c3, rfl, s3, o3, b3⟩
    have D3 := Lib.hid (next0 B2.out b3)
    have E3 := Lib.hid (E2.out.step0 b3)
    have S3 := Lib.hid s3
    have O3 := Lib.hid o3
    have hs3 : w.heap.size + 2 ≤ w3.heap.size := Nat.le_trans hs2 b3.size
    clear y1 y2 y3 y4 y5 LA H2 E2 B2 s3 b3
    obtain ⟨W4, hW4⟩ : ∃ W4, W4 = w3.alloc (.cells #[.string xn, .slice p3 m c3] 27) := ⟨_, rfl⟩
    have N4 : Hid (Has W4 w3.heap.size #[.string xn, .slice p3 m c3]) := Lib.hid (by rw [hW4]; exact Has.new _ _ _)
    have E4 : Hid (Has W4 (w.heap.size + 1) #[.string ⟨#[]⟩, .slice none 0 0]) := Lib.hid (by rw [hW4]; exact E3.out.alloc _)
    have D4 : Hid (Below w.heap.size w W4) := Lib.hid (by rw [hW4]; exact next0 D3.out (below_alloc _ _))
    have S4 : Hid (SlIn (· < B) W4 x.args (.slice p3 m c3)) := Lib.hid (by rw [hW4]; exact S3.out.deep (below_alloc _ _) (Nat.le_trans HB.out D3.out.size))
    have CLf := Lib.hid (fun w' => leaf_nil xn w')
    obtain ⟨y1, y2, _⟩ := N4.out.two
    clear S3 D3 E3
    go_upto_region 2 with fail
    rw [← hW4]
    clear hW4
    go_wp2_with fail
    refine (CLf.out _).mono ?_
    rintro e w5 ⟨rfl, b5⟩
    have D5 := Lib.hid (next0 D4.out b5)
    have E5 := Lib.hid (E4.out.step0 b5)
    have N5 := Lib.hid (N4.out.step0 b5)
    have S5 := Lib.hid (S4.out.deep b5 (Nat.le_trans HB.out D4.out.size))
    have hl5 : w3.heap.size < w5.heap.size := N5.out.lt
    have hs5 : w.heap.size + 2 ≤ w5.heap.size := by omega
    clear y1 y2 b5 N4 E4 D4 S4 CLf
    obtain ⟨W6, hW6⟩ : ∃ W6, W6 = w5.alloc (.cells #[.string xn, .slice none 0 0] 27) := ⟨_, rfl⟩
    have R6 : Hid (Has W6 w5.heap.size #[.string xn, .slice none 0 0]) := Lib.hid (by rw [hW6]; exact Has.new _ _ _)
    have E6 : Hid (Has W6 (w.heap.size + 1) #[.string ⟨#[]⟩, .slice none 0 0]) := Lib.hid (by rw [hW6]; exact E5.out.alloc _)
    have N6 : Hid (Has W6 w3.heap.size #[.string xn, .slice p3 m c3]) := Lib.hid (by rw [hW6]; exact N5.out.alloc _)
    have D6 : Hid (Below w.heap.size w W6) := Lib.hid (by rw [hW6]; exact next0 D5.out (below_alloc _ _))
    have S6 : Hid (SlIn (· < B) W6 x.args (.slice p3 m c3)) := Lib.hid (by rw [hW6]; exact S5.out.deep (below_alloc _ _) (Nat.le_trans HB.out D5.out.size))
    clear D5 E5 N5 S5
    go_upto_region 3 with fail
    rw [← hW6]
    clear hW6
    obtain ⟨z1, z2, z3, z4, z5⟩ := R6.out.two
    obtain ⟨y1, y2, y3, y4, y5⟩ := E6.out.two
    have r1 := E6.out.put0 (.string xn) (.slice none 0 0)
    have r2 := E6.out.put1 (.string xn) (.slice none 0 0)
    have D7 := Lib.hid ((D6.out.setCell (p := ⟨w.heap.size + 1, 0, none⟩) (by simp) (.string xn)).setCell (p := ⟨w.heap.size + 1, 1, none⟩) (by simp) (.slice none 0 0))
    clear N6 S6 E6 R6 D6
    go_wp2_with fail
    refine bodyPost_ret (v := .agg #[.string xn, .slice none 0 0]) (by simp [results, Tryz.results56, go_sem, r1, r2]) rfl ?_
    exact ⟨none, 0, rfl, SlIn.none _ _, HXN.out ▸ O3.out.1, D7.out⟩
  | succ d ih =>
    intro hd t u hr B bm w tv hw hB hC h ot
    obtain ⟨p, c, rfl⟩ := h.form
    obtain ⟨x, hx⟩ : ∃ x, leadP D n t = some x := by
      unfold resP at hr
      cases h : leadP D n t with
      | none => rw [h] at hr; cases hr
      | some x => exact ⟨x, rfl⟩
    obtain ⟨W2, hW2⟩ : ∃ W2, W2 = (w.alloc (.cells #[.string t.nm, .slice p t.args.length c] 27)).alloc (.cells #[.string ⟨#[]⟩, .slice none 0 0] 27) := ⟨_, rfl⟩
    have B2 : Hid (Below w.heap.size w W2) := Lib.hid (by rw [hW2]; exact ((Gr.alloc _ _).more _).1)
    have hs2 : w.heap.size + 2 ≤ W2.heap.size := by rw [hW2]; simp
    have H2 : Hid (Has W2 w.heap.size #[.string t.nm, .slice p t.args.length c]) := Lib.hid (by rw [hW2]; exact (Has.new w _ _).alloc _)
    have E2 : Hid (Has W2 (w.heap.size + 1) #[.string ⟨#[]⟩, .slice none 0 0]) := Lib.hid (by rw [hW2]; exact Has.new1 w _ _ _)
    have LA := Lib.hid (fun w' (k : Below w.heap.size w w') => leader_any D n t x hx B bm w' _ (hw.below k hw.1) (Nat.le_trans hB k.size) (hC.keep k hB) (h.deep k hB) ot)
    have HB := Lib.hid hB
    unfold TmR at LA
    unfold RApR
    obtain ⟨r, hr9, e9⟩ : ∃ r, mapO (resP D n d) x.args = some r ∧ u = .mk x.nm r := by
      unfold resP at hr
      rw [hx] at hr
      simp only [Option.bind_some] at hr
      cases h9 : mapO (resP D n d) x.args with
      | none => rw [h9] at hr; cases hr
      | some r => rw [h9] at hr; cases hr; exact ⟨r, rfl, rfl⟩
    have TK := Lib.hid (mapO_take hr9)
    have ll : Hid (r.length = x.args.length) := Lib.hid (mapO_len hr9)
    have IH : Hid (∀ (a u : Tm), resP D n d a = some u → Ok a → ∀ (w' : World) (v : Value), Below w.heap.size w w' → SlIn (· < B) w' a.args v → Calls Tryz.prog 56 #[.map (some bm), .agg #[.string a.nm, v], .int .i64 d] w' (RApR 0 u w')) :=
      Lib.hid (fun a u hr o w' v k hs => ih (by omega) a u hr B bm w' v (hw.below k hw.1) (Nat.le_trans hB k.size) (hC.keep k hB) hs o)
    have hd0 : ((((d + 1 : Nat)) : Int) == 0) = false := by rw [beq_eq_false_iff_ne]; omega
    have hd1 : IntKind.i64.wrap (((d + 1 : Nat) : Int) - 1) = (d : Int) := by
      have : (((d + 1 : Nat) : Int) - 1) = (d : Int) := by omega
      rw [this]
      exact IntWalk.i64_in _ ⟨by omega, by omega⟩
    generalize (((d + 1 : Nat)) : Int) = dz at *
    have OX : Hid (∀ o : Ok x, x.args.length ≤ 1000000) := Lib.hid (fun o => by
      have h1 := o.2.2
      have h2 := len_size x.args
      obtain ⟨xn, xl⟩ := x
      simp only [sizeT, Tm.args] at h1 h2 ⊢
      omega)
    generalize t.nm = tn at *
    generalize t.args.length = tl at *
    generalize hxn : x.nm = xn at *
    have HXN := Lib.hid hxn
    generalize hm : x.args.length = m at *
    have HM := Lib.hid hm
    subst e9
    clear hC h hw hr hx hr9 ih hm
    dsimp only [Tm.nm, Tm.args]
    rw [ll.out]
    obtain ⟨y1, y2, y3, y4, y5⟩ := H2.out.two
    go_enter Tryz.func56, Tryz.ntmps56
    go_upto_region 1 with fail
    rw [← hW2]
    clear hW2
    go_wp2_with fail
    refine (LA.out _ B2.out).mono ?_
    rintro e w3 ⟨p3, c3, rfl, s3, o3, b3⟩
    have D3 := Lib.hid (next0 B2.out b3)
    have E3 := Lib.hid (E2.out.step0 b3)
    have S3 := Lib.hid s3
    have O3 := Lib.hid o3
    have hs3 : w.heap.size + 2 ≤ w3.heap.size := Nat.le_trans hs2 b3.size
    clear y1 y2 y3 y4 y5 LA H2 E2 B2 s3 b3
    obtain ⟨W4, hW4⟩ : ∃ W4, W4 = w3.alloc (.cells #[.string xn, .slice p3 m c3] 27) := ⟨_, rfl⟩
    have N4 : Hid (Has W4 w3.heap.size #[.string xn, .slice p3 m c3]) := Lib.hid (by rw [hW4]; exact Has.new _ _ _)
    have E4 : Hid (Has W4 (w.heap.size + 1) #[.string ⟨#[]⟩, .slice none 0 0]) := Lib.hid (by rw [hW4]; exact E3.out.alloc _)
    have D4 : Hid (Below w.heap.size w W4) := Lib.hid (by rw [hW4]; exact next0 D3.out (below_alloc _ _))
    have S4 : Hid (SlIn (· < B) W4 x.args (.slice p3 m c3)) := Lib.hid (by rw [hW4]; exact S3.out.deep (below_alloc _ _) (Nat.le_trans HB.out D3.out.size))
    have CLf := Lib.hid (fun w' => leaf_nil xn w')
    obtain ⟨y1, y2, _⟩ := N4.out.two
    clear S3 D3 E3
    go_upto_region 2 with fail
    rw [← hW4]
    clear hW4
    go_wp2_with fail
    refine (CLf.out _).mono ?_
    rintro e w5 ⟨rfl, b5⟩
    have D5 := Lib.hid (next0 D4.out b5)
    have E5 := Lib.hid (E4.out.step0 b5)
    have N5 := Lib.hid (N4.out.step0 b5)
    have S5 := Lib.hid (S4.out.deep b5 (Nat.le_trans HB.out D4.out.size))
    have hl5 : w3.heap.size < w5.heap.size := N5.out.lt
    have hs5 : w.heap.size + 2 ≤ w5.heap.size := by omega
    clear y1 y2 b5 N4 E4 D4 S4 CLf
    obtain ⟨W6, hW6⟩ : ∃ W6, W6 = w5.alloc (.cells #[.string xn, .slice none 0 0] 27) := ⟨_, rfl⟩
    have R6 : Hid (Has W6 w5.heap.size #[.string xn, .slice none 0 0]) := Lib.hid (by rw [hW6]; exact Has.new _ _ _)
    have E6 : Hid (Has W6 (w.heap.size + 1) #[.string ⟨#[]⟩, .slice none 0 0]) := Lib.hid (by rw [hW6]; exact E5.out.alloc _)
    have N6 : Hid (Has W6 w3.heap.size #[.string xn, .slice p3 m c3]) := Lib.hid (by rw [hW6]; exact N5.out.alloc _)
    have D6 : Hid (Below w.heap.size w W6) := Lib.hid (by rw [hW6]; exact next0 D5.out (below_alloc _ _))
    have S6 : Hid (SlIn (· < B) W6 x.args (.slice p3 m c3)) := Lib.hid (by rw [hW6]; exact S5.out.deep (below_alloc _ _) (Nat.le_trans HB.out D5.out.size))
    clear D5 E5 N5 S5
    go_upto_region 3 with fail
    rw [← hW6]
    clear hW6
    have OA := Lib.hid (fun (a : Tm) (ha : a ∈ x.args) (hn : a.nm.size ≤ maxLen) => O3.out.arg ha hn)
    obtain ⟨p', c', e1, hpn, hcc, hcm, hR⟩ := S6.out.row
    injection e1 with e1 e3 e2
    subst e1 e2
    have HR := Lib.hid hR
    have hlb : m ≤ 1000000 := by have := OX.out O3.out; omega
    clear hR hpn hcc hcm e3
    obtain ⟨z1, z2, _⟩ := N6.out.two
    go_wp2_with fail
    clear z1 z2
    have hs6 : w5.heap.size < W6.heap.size := R6.out.lt
    have hB5 : B ≤ w5.heap.size := by have := HB.out; omega
    go_loopw [23] (fun i wr => ∃ (k : Nat) (L : List (Tm × Value)) (v : Value), k ≤ m ∧ i = .int .i64 k ∧ Hid (L.map (·.1) = r.take k) ∧ Hid (OwnB 0 (w5.heap.size + 1) wr L v) ∧ Hid (Has wr w5.heap.size #[.string xn, v]) ∧ Hid (Has wr w3.heap.size #[.string xn, .slice p3 m c3]) ∧ Hid (Has wr (w.heap.size + 1) #[.string ⟨#[]⟩, .slice none 0 0]) ∧ Hid (Below w.heap.size w wr) ∧ Hid (Below B W6 wr)) (fun i _ => m - (intOf i).toNat)
    case atStart => exact ⟨0, [], _, Nat.zero_le _, rfl, Lib.hid rfl, Lib.hid (OwnB.nil _ _ _), R6, N6, E6, D6, Lib.hid (Below.refl _ _)⟩
    case round =>
      obtain ⟨k, L, v, hk, rfl, hL, hO, hC, hH, hE, hD, hK⟩ := hrel
      by_cases hlt : k < m
      · obtain ⟨t, b, o, q, d9, ht, rfl, hb, c1, c2, hs, hts⟩ := (Row.deep HR.out hK.out (Nat.le_refl _)) k (by rw [HM.out]; exact hlt)
        obtain ⟨u, hu, hru⟩ := TK.out k t ht
        have hLl : L.length = k := by
          have := congrArg List.length hL.out
          rw [List.length_map, List.length_take, ll.out] at this
          omega
        have hLl2 : L.length ≤ 1000000 := by omega
        obtain ⟨W7, hW7⟩ : ∃ W7, W7 = wr.alloc (.cells #[.string t.nm, .slice q t.args.length d9] 27) := ⟨_, rfl⟩
        have T7 : Hid (Below wr.heap.size wr W7) := Lib.hid (by rw [hW7]; exact below_alloc _ _)
        have A7 : Hid (Has W7 wr.heap.size #[.string t.nm, .slice q t.args.length d9]) := Lib.hid (by rw [hW7]; exact Has.new _ _ _)
        have IT := Lib.hid (fun w' (g : Below wr.heap.size wr w') => IH.out t u hru (OA.out t (List.mem_of_getElem? ht) hts) w' _ (next0 hD.out g) (hs.deep g (Nat.le_trans HB.out hD.out.size)))
        have hv := Lib.hid hO.out.1.lt
        have A1 : L.length + 1 ≤ maxLen := by unfold maxLen; omega
        have A2 : (L.length + 1) * 40 ≤ 140737488355328 := by omega
        have hDs := hD.out.size
        have hbs : w5.heap.size + 1 ≤ wr.heap.size := hC.out.lt
        have TT : Hid (r.take (k + 1) = r.take k ++ [u]) := Lib.hid (take_get r k u hu)
        have HD7 := Lib.hid (next0 hD.out T7.out)
        have HC7 := Lib.hid (hC.out.step0 T7.out)
        have HH7 := Lib.hid (hH.out.step0 T7.out)
        have HE7 := Lib.hid (hE.out.step0 T7.out)
        have HO7 := Lib.hid (hO.out.below T7.out)
        obtain ⟨a1, a2, _⟩ := A7.out.two
        obtain ⟨x1, x2, x3, x4, hbl⟩ := HC7.out.two
        have hwl : wr.heap.size < W7.heap.size := A7.out.lt
        clear hs hts ht hLl hu hru
        generalize t.nm = tn at *
        generalize t.args.length = ta at *
        unfold RApR at IT
        go_upto_region 8 with fail
        rw [← hW7]
        clear hW7 c1 c2
        go_region_law (first
          | (refine step_append_lies _ rfl _ _ 25 rfl (w5.heap.size + 1) 27 i0 (.agg #[.string ⟨#[]⟩, .slice none 0 0]) 2 40 Tryz.underlying25 hi hz0 hz1 hz2 rfl (by decide) v L.length (flatL L) rfl (O2.out.1.alloc _) ⟨w2.heap.size, 0, none⟩ 1 1 [.string u.nm, .slice q1 u.args.length c1'] rfl rfl (news2 _ _ _ _) (one2 _ _ _ _) (by decide) A1 A2 A3 (w2.heap.size + 1) (by simp) ?_; intro g cap w4 hown hgrow hat hlt3; have O3 := Lib.hid (O2.out.add (by omega) (by omega) S2.out NU.out hbw (fun k hk => by have := (hv.out k hk).2; omega) hown hgrow hat); have nv1 : v.ownBlock ≠ some w5.heap.size := (fun e => absurd (hv.out _ e).1 (by omega)); have nv2 : v.ownBlock ≠ some (w.heap.size + 1) := (fun e => absurd (hv.out _ e).1 (by omega)); have nv3 : v.ownBlock ≠ some w3.heap.size := (fun e => absurd (hv.out _ e).1 (by omega)); have C3 := Lib.hid (UniD.Has.grown (C2.out.alloc _) hgrow nv1); have E3 := Lib.hid (UniD.Has.grown (E2.out.alloc _) hgrow nv2); have H3 := Lib.hid (UniD.Has.grown (H2.out.alloc _) hgrow nv3); have D3 := Lib.hid ((D2.out.alloc (by exact D2.out.size) _).grown hgrow (by have := D2.out.size; simp; omega) (fun k hk => by have := (hv.out k hk).1; omega)); have K3 := Lib.hid ((K2.out.alloc (by have := hK2; omega) _).grown hgrow (by have := hK2; simp; omega) (fun k hk => by have := (hv.out k hk).1; omega)); clear hown hgrow hat; obtain ⟨u1, u2, u3, u4, u5⟩ := C3.out.two)
          | (go_simp; go_at_call 56; refine (IT.out _ (by first | exact T7.out | exact T7.out.drew | exact below_drewN T7.out _)).mono ?_; rintro e w2 ⟨q1, c1', rfl, s2, nu, b2⟩; have G2 : Below W7.heap.size W7 w2 := (by first | exact b2 | exact next0 (Below.refl _ _).drew b2 | exact next0 (below_drewN (Below.refl _ _) _) b2); have hz22 : W7.heap.size ≤ w2.heap.size := G2.size; have S2 := Lib.hid (s2.weaken (ok' := fun b => b < 0 ∨ (W7.heap.size ≤ b ∧ b < w2.heap.size)) (fun b hb => hb)); have NU := Lib.hid nu; have D2 := Lib.hid (next0 HD7.out G2); have K2 := Lib.hid (hK.out.trans ((next0 T7.out G2).mono (Nat.le_trans HB.out hDs))); have hK2 : B ≤ w2.heap.size := (by have := HB.out; omega); have hbw : w5.heap.size + 1 ≤ W7.heap.size := (by omega); have O2 := Lib.hid (HO7.out.below G2); have C2 := Lib.hid (HC7.out.step0 G2); have E2 := Lib.hid (HE7.out.step0 G2); have H2 := Lib.hid (HH7.out.step0 G2); have A3 : w5.heap.size + 1 ≤ (w2.alloc (.cells #[.string u.nm, .slice q1 u.args.length c1'] 27)).heap.size := (by have := C2.out.lt; simp; omega); clear s2 b2 G2 nu; obtain ⟨z1, z2, z3, z4, z5⟩ := C2.out.two))
        all_goals
          go_wp2_with fail
          go_roundw
          case rel => (repeat (refine Exists.intro _ ?_)); first | (refine ⟨?_, rfl⟩; exact ⟨k + 1, L ++ [(u, .slice q1 u.args.length c1')], _, by omega, by go_num, Lib.hid (by rw [List.map_append, hL.out, TT.out]; rfl), Lib.hid (O3.out.far (by simp) (Nat.zero_le _) _), Lib.hid (C3.out.set 1 _), Lib.hid (H3.out.far (by show w3.heap.size ≠ w5.heap.size; omega) _), Lib.hid (E3.out.far (by show w.heap.size + 1 ≠ w5.heap.size; omega) _), Lib.hid (D3.out.setCell (by show w.heap.size ≤ w5.heap.size; omega) _), Lib.hid (K3.out.setCell (by show B ≤ w5.heap.size; omega) _)⟩) | exact ⟨k + 1, L ++ [(u, .slice q1 u.args.length c1')], _, by omega, by go_num, Lib.hid (by rw [List.map_append, hL.out, TT.out]; rfl), Lib.hid (O3.out.far (by simp) (Nat.zero_le _) _), Lib.hid (C3.out.set 1 _), Lib.hid (H3.out.far (by show w3.heap.size ≠ w5.heap.size; omega) _), Lib.hid (E3.out.far (by show w.heap.size + 1 ≠ w5.heap.size; omega) _), Lib.hid (D3.out.setCell (by show w.heap.size ≤ w5.heap.size; omega) _), Lib.hid (K3.out.setCell (by show B ≤ w5.heap.size; omega) _)⟩
          case measure => simp [intOf]; omega
      · obtain rfl : k = m := by omega
        obtain ⟨a, c', rfl⟩ := hO.out.form
        have hLl : L.length = k := by
          have := congrArg List.length hL.out
          rw [List.length_map, List.length_take, ll.out] at this
          omega
        have HL : Hid (L.map (·.1) = r) := Lib.hid (by rw [hL.out, ← ll.out, List.take_length])
        rw [hLl] at hO hC
        obtain ⟨x1, x2, _, _, x5⟩ := hC.out.two
        obtain ⟨y1, y2, y3, y4, y5⟩ := hE.out.two
        have O4 := Lib.hid (((hO.out.far (p := ⟨w.heap.size + 1, 0, none⟩) (by show w.heap.size + 1 < w5.heap.size + 1; omega) (Nat.zero_le _) (.string xn)).far (p := ⟨w.heap.size + 1, 1, none⟩) (by show w.heap.size + 1 < w5.heap.size + 1; omega) (Nat.zero_le _) (.slice a k c')))
        have D4 := Lib.hid ((hD.out.setCell (p := ⟨w.heap.size + 1, 0, none⟩) (by simp) (.string xn)).setCell (p := ⟨w.heap.size + 1, 1, none⟩) (by simp) (.slice a k c'))
        have r1 := hE.out.put0 (.string xn) (.slice a k c')
        have r2 := hE.out.put1 (.string xn) (.slice a k c')
        clear hLl
        go_wp2_with fail
        refine bodyPost_ret (v := .agg #[.string xn, .slice a k c']) (by simp [results, Tryz.results56, go_sem, r1, r2]) rfl ?_
        refine ⟨a, c', rfl, ?_, HXN.out ▸ O3.out.1, D4.out⟩
        rw [← HL.out]
        exact O4.out.slin.weaken (fun b hb => by have := hb; omega)
end UnmD
end Go.Proofs.YtjfgnmmcdgpiiaaGreatDoor
/- A row of strings behind the library's sort; unifiers as plain data, with fuel. No conditions. -/
namespace Go.Proofs.YtjfgnmmcdgpiiaaGreatDoor
open Go Go.RowKit Go.Maps Go.WideMaps
namespace UnmE
open LexM TermM TermI Kit TermN TermU TermL TermE TermF UniK UniM UniG UniL UniD TermT UnmA UnmB UnmC UnmD
def lists (vs : List ByteArray) : List (List UInt8) := vs.map fun v => v.data.toList
def bytesOf (ls : List (List UInt8)) : List ByteArray := ls.map fun l => ⟨l.toArray⟩
/-- The strings, ascending. -/
def sortB (vs : List ByteArray) : List ByteArray := bytesOf ((lists vs).mergeSort fun x y => decide (x ≤ y))
theorem sortB_len (vs : List ByteArray) : (sortB vs).length = vs.length := by simp [sortB, bytesOf, lists]
theorem strs_bytes (ls : List (List UInt8)) : strs (bytesOf ls) = ls.map encStr := by simp [strs, bytesOf]
theorem bytes_lists (vs : List ByteArray) : bytesOf (lists vs) = vs := by
  unfold bytesOf lists
  rw [List.map_map]
  exact List.map_id _
theorem sortB_mem {vs : List ByteArray} {v : ByteArray} (h : v ∈ sortB vs) : v ∈ vs := by
  unfold sortB bytesOf at h
  obtain ⟨l, hl, rfl⟩ := List.mem_map.1 h
  have h1 := List.mem_mergeSort.1 hl
  unfold lists at h1
  obtain ⟨x, hx, rfl⟩ := List.mem_map.1 h1
  exact hx
/-- The row holds what is put into it. -/
theorem put_row {w : World} {base g cap : Nat} {ls : List (List UInt8)} {e : TypeId} {xs : List Value} (h : w.ownsRow base e 1 (.slice (some ⟨g, 0, none⟩) ls.length cap) ls.length xs) (n : Nat) (os : Array Obj) :
    (Sort.grow (Sort.putRow encStr (Sort.ahead w n) g 0 ls.toArray) os).ownsRow base e 1 (.slice (some ⟨g, 0, none⟩) ls.length cap) ls.length (ls.map encStr) ∧ Below base w (Sort.grow (Sort.putRow encStr (Sort.ahead w n) g 0 ls.toArray) os) := by
  obtain ⟨h1, h2⟩ := h
  rcases h2 with ⟨e1, _⟩ | ⟨g', cap', cur, e1, e2, e3, e4, e5, e6, e7⟩
  · cases e1
  · cases e1
    have hg : g < w.heap.size := (Array.getElem?_eq_some_iff.1 e3).1
    refine ⟨⟨by simp, Or.inr ⟨g, cap, Sort.putCells encStr 0 ls.toArray cur, rfl, e2, ?_, e4, e5, ?_, ?_⟩⟩, ⟨rfl, rfl, rfl, ?_, fun b hb => ?_⟩⟩
    · have e9 : (w.heap.modify g (Sort.onCells (Sort.putCells encStr 0 ls.toArray)))[g]? = some (.cells (Sort.putCells encStr 0 ls.toArray cur) e (0, 0)) := by rw [Array.getElem?_modify, if_pos rfl, e3]; rfl
      show ((w.heap.modify g (Sort.onCells (Sort.putCells encStr 0 ls.toArray))) ++ os)[g]? = _
      rw [Array.getElem?_append_left (by simpa using hg)]
      exact e9
    · simpa [Sort.putCells] using e6
    · apply List.ext_getElem?
      intro i
      simp only [Nat.mul_one, List.getElem?_take, List.getElem?_map]
      by_cases hi : i < ls.length
      · have hc : i < cur.size := by omega
        rw [if_pos hi]
        simp [Sort.putCells, hi, hc]
      · rw [if_neg hi]
        simp [List.getElem?_eq_none (Nat.not_lt.1 hi)]
    · simp [Sort.grow, Sort.putRow, Sort.mapBlock, Sort.ahead]
    · have : g ≠ b := by omega
      by_cases hbl : b < w.heap.size
      · show ((w.heap.modify g (Sort.onCells (Sort.putCells encStr 0 ls.toArray))) ++ os)[b]? = _
        rw [Array.getElem?_append_left (by simpa using hbl), Array.getElem?_modify, if_neg this]
      · omega
/-- The unifier. -/
def unifyP (n : Nat) (a b : Tm) : Option (Option (List Bd)) :=
  if (validT false 4 a && validT false 4 b) = false then some none else
    match joinP n [] a b with
    | none => none
    | some (_, false) => some none
    | some (D, true) => (solP D n (sortB (varsOf (leavesL [a, b])))).map fun s => if vldS s = true then some s else none
end UnmE
end Go.Proofs.YtjfgnmmcdgpiiaaGreatDoor
/- The code's classes: who leads, what a join leaves, and which substitutions solve it. No conditions. -/
namespace Go.Proofs.YtjfgnmmcdgpiiaaGreatDoor
open Go
namespace UnuB
open LexM TermM TermU1 UniM UniC UniG UniH UniO UniY UnmA UnmE UnuA
abbrev V (t : Tm) : Prop := validT false 4 t = true
/-- Who leads the class of a term. -/
def ldr : Cls → Tm → Tm
  | [], t => t
  | (k, x) :: D, t => if textT (ldr D t) = k then x else ldr D t
/-- How the classes grow: a leader comes below another one. -/
inductive Fo : Cls → Prop
  | nil : Fo []
  | step {D : Cls} {x y : Tm} : Fo D → V x → V y → lookK D (textT x) = none → lookK D (textT y) = none → x ≠ y → (isV x = true → isV y = true ∧ ltB x.nm y.nm = true) → Fo ((textT y, x) :: D)
theorem text_ne {x y : Tm} (hx : V x) (hy : V y) (h : x ≠ y) : textT y ≠ textT x := fun e => h ((valid_text hx hy).1 e.symm)
theorem lead_up {D : Cls} {x y : Tm} (hx : V x) (hy : V y) (nx : lookK D (textT x) = none) (ny : lookK D (textT y) = none) (hne : x ≠ y) : ∀ (n : Nat) (t l : Tm), leadP D n t = some l → leadP ((textT y, x) :: D) (n + 1) t = some (if textT l = textT y then x else l)
  | 0, _, _, h => by cases h
  | n + 1, t, l, h => by
    unfold leadP at h
    rw [leadP, lookK_cons]
    cases hl : lookK D (textT t) with
    | none =>
      rw [hl] at h
      simp only [Option.some.injEq] at h
      subst h
      by_cases e : textT y = textT t
      · rw [if_pos e, if_pos e.symm]
        simp only
        rw [leadP, lookK_cons, if_neg (text_ne hx hy hne), nx]
      · rw [if_neg e, if_neg (fun h => e h.symm)]
    | some u =>
      rw [hl] at h
      simp only at h
      have e : textT y ≠ textT t := by
        intro e
        rw [← e, ny] at hl
        cases hl
      rw [if_neg e]
      exact lead_up hx hy nx ny hne n u l h
theorem lead_mono {D : Cls} : ∀ (n m : Nat) (t l : Tm), leadP D n t = some l → leadP D (n + m) t = some l
  | 0, _, _, _, h => by cases h
  | n + 1, m, t, l, h => by
    rw [show n + 1 + m = (n + m) + 1 by omega]
    unfold leadP at h ⊢
    cases hl : lookK D (textT t) with
    | none => rw [hl] at h; exact h
    | some u => rw [hl] at h; exact lead_mono n m u l h
theorem lead_ldr {D : Cls} (h : Fo D) : ∀ t, leadP D (D.length + 1) t = some (ldr D t) := by
  induction h with
  | nil => intro t; rfl
  | step hD hx hy nx ny hne hv ih =>
    intro t
    exact lead_up hx hy nx ny hne _ t _ (ih t)
theorem lead_n {D : Cls} (h : Fo D) {n : Nat} (hn : D.length < n) (t : Tm) : leadP D n t = some (ldr D t) := by
  obtain ⟨m, rfl⟩ : ∃ m, n = D.length + 1 + m := ⟨n - (D.length + 1), by omega⟩
  exact lead_mono _ m t _ (lead_ldr h t)
theorem ldr_none {D : Cls} (h : Fo D) {t : Tm} (hl : lookK D (textT t) = none) : ldr D t = t := by
  have h1 := lead_ldr h t
  unfold leadP at h1
  rw [hl] at h1
  simpa using h1.symm
theorem ldr_top {D : Cls} (h : Fo D) : ∀ t, lookK D (textT (ldr D t)) = none := by
  induction h with
  | nil => intro t; rfl
  | @step D x y hD hx hy nx ny hne hv ih =>
    intro t
    unfold ldr
    rw [lookK_cons]
    by_cases e : textT (ldr D t) = textT y
    · rw [if_pos e]
      simp only
      rw [if_neg (text_ne hx hy hne)]
      exact nx
    · rw [if_neg e]
      simp only
      rw [if_neg (fun h => e h.symm)]
      exact ih t
theorem ldr_idem {D : Cls} (h : Fo D) (t : Tm) : ldr D (ldr D t) = ldr D t := ldr_none h (ldr_top h t)
theorem ldr_valid {D : Cls} (h : Fo D) {t : Tm} (ht : V t) : V (ldr D t) := by
  induction h with
  | nil => exact ht
  | @step D x y hD hx hy nx ny hne hv ih =>
    unfold ldr
    split
    · exact hx
    · exact ih
theorem ldr_app (E D : Cls) (t : Tm) : ldr (E ++ D) t = ldr E (ldr D t) := by
  induction E with
  | nil => rfl
  | cons e E ih =>
    obtain ⟨k, x⟩ := e
    show ldr ((k, x) :: (E ++ D)) t = _
    rw [ldr, ldr, ih]
theorem ltB_trans {a b c : ByteArray} (h1 : ltB a b = true) (h2 : ltB b c = true) : ltB a c = true := by
  rw [lt_lex] at h1 h2 ⊢
  have := (tri_lex a.data.toList b.data.toList c.data.toList).2.1 h1 (by omega)
  exact this
theorem ldr_var {D : Cls} (h : Fo D) {t : Tm} (ht : V t) : isV (ldr D t) = true → isV t = true ∧ (ldr D t = t ∨ ltB (ldr D t).nm t.nm = true) := by
  induction h with
  | nil => intro h; exact ⟨h, Or.inl rfl⟩
  | @step D x y hD hx hy nx ny hne hv ih =>
    unfold ldr
    by_cases e : textT (ldr D t) = textT y
    · rw [if_pos e]
      intro hxv
      obtain ⟨h1, h2⟩ := hv hxv
      have e' : ldr D t = y := (valid_text (ldr_valid hD ht) hy).1 e
      rw [e'] at ih
      obtain ⟨h3, h4⟩ := ih h1
      refine ⟨h3, Or.inr ?_⟩
      rcases h4 with h4 | h4
      · rw [← h4]; exact h2
      · exact ltB_trans h2 h4
    · rw [if_neg e]
      exact ih
/-- A substitution makes the terms of each class equal. -/
def Sol (σ : Sb) (D : Cls) : Prop := ∀ e ∈ D, ∀ y, V y → textT y = e.1 → subT σ y = subT σ e.2
theorem sol_nil (σ : Sb) : Sol σ [] := fun _ h => by cases h
theorem sol_cons {σ : Sb} {D : Cls} {x y : Tm} (hy : V y) : Sol σ ((textT y, x) :: D) ↔ Sol σ D ∧ subT σ y = subT σ x := by
  constructor
  · intro h
    exact ⟨fun e he => h e (List.mem_cons_of_mem _ he), h (textT y, x) (by simp) y hy rfl⟩
  · rintro ⟨h1, h2⟩ e he z hz hzt
    rcases List.mem_cons.1 he with rfl | he
    · rw [(valid_text hz hy).1 hzt]; exact h2
    · exact h1 e he z hz hzt
theorem sol_ldr {σ : Sb} {D : Cls} (h : Fo D) {t : Tm} (ht : V t) : Sol σ D → subT σ t = subT σ (ldr D t) := by
  induction h with
  | nil => intro _; rfl
  | @step D x y hD hx hy nx ny hne hv ih =>
    intro hs
    obtain ⟨h1, h2⟩ := (sol_cons hy).1 hs
    unfold ldr
    by_cases e : textT (ldr D t) = textT y
    · rw [if_pos e, ih h1, (valid_text (ldr_valid hD ht) hy).1 e, h2]
    · rw [if_neg e]; exact ih h1
/-- All that stands in the classes is among some terms. -/
def InS (S : List Tm) (D : Cls) : Prop := ∀ e ∈ D, e.2 ∈ S ∧ ∃ y ∈ S, e.1 = textT y
theorem ins_ldr {S : List Tm} {D : Cls} (h : InS S D) {t : Tm} (ht : t ∈ S) : ldr D t ∈ S := by
  induction D with
  | nil => exact ht
  | cons e D ih =>
    obtain ⟨k, x⟩ := e
    unfold ldr
    split
    · exact (h (k, x) (by simp)).1
    · exact ih fun e he => h e (List.mem_cons_of_mem _ he)
theorem look_key {α : Type} {D : List (Ky × α)} {k : Ky} (h : lookK D k = none) : k ∉ D.map (·.1) := by
  induction D with
  | nil => simp
  | cons e D ih =>
    rw [lookK_cons] at h
    split at h
    · cases h
    · next hne =>
      simp only [List.map_cons, List.mem_cons, not_or]
      exact ⟨fun e => hne e.symm, ih h⟩
theorem fo_keys {D : Cls} (h : Fo D) : (D.map (·.1)).Nodup := by
  induction h with
  | nil => exact List.nodup_nil
  | step hD hx hy nx ny hne hv ih =>
    rw [List.map_cons, List.nodup_cons]
    exact ⟨look_key ny, ih⟩
theorem nodup_len {α : Type} [DecidableEq α] : ∀ (l m : List α), l.Nodup → (∀ x ∈ l, x ∈ m) → l.length ≤ m.length
  | [], m, _, _ => Nat.zero_le _
  | a :: l, m, hn, hs => by
    rw [List.nodup_cons] at hn
    have ha := hs a (by simp)
    have h1 := nodup_len l (m.erase a) hn.2 fun x hx => by
      have hne : x ≠ a := fun e => hn.1 (e ▸ hx)
      exact (List.mem_erase_of_ne hne).2 (hs x (by simp [hx]))
    have h2 := List.length_erase_of_mem ha
    have h3 : 0 < m.length := List.length_pos_of_mem ha
    simp only [List.length_cons]
    omega
theorem fo_len {S : List Tm} {D : Cls} (h : Fo D) (hi : InS S D) : D.length ≤ S.length := by
  have h1 := nodup_len (D.map (·.1)) (S.map textT) (fo_keys h) fun k hk => by
    obtain ⟨e, he, rfl⟩ := List.mem_map.1 hk
    obtain ⟨y, hy, e2⟩ := (hi e he).2
    rw [e2]
    exact List.mem_map_of_mem hy
  simpa using h1
/-- An entry's parts have the same leaders. -/
def ClE (D : Cls) (S : List Tm) (e : Ky × Tm) : Prop := ∀ y ∈ S, textT y = e.1 → isV y = false → e.2.nm = y.nm ∧ e.2.args.map (ldr D) = y.args.map (ldr D)
theorem map_ldr_app {E D : Cls} {xs ys : List Tm} (h : xs.map (ldr D) = ys.map (ldr D)) : xs.map (ldr (E ++ D)) = ys.map (ldr (E ++ D)) := by
  have e : ∀ l : List Tm, l.map (ldr (E ++ D)) = (l.map (ldr D)).map (ldr E) := fun l => by
    rw [List.map_map]
    exact List.map_congr_left fun t _ => ldr_app E D t
  rw [e, e, h]
theorem cle_app {E D : Cls} {S : List Tm} {e : Ky × Tm} (h : ClE D S e) : ClE (E ++ D) S e := fun y hy ht hv => ⟨(h y hy ht hv).1, map_ldr_app (h y hy ht hv).2⟩
/-- What a join of two lists of terms leaves. -/
def JOk (S : List Tm) (D : Cls) (xs ys : List Tm) (D' : Cls) (r : Bool) : Prop :=
  ∃ E, D' = E ++ D ∧ Fo D' ∧ InS S D' ∧ (r = true → xs.map (ldr D') = ys.map (ldr D') ∧ (∀ e ∈ E, ClE D' S e) ∧ ∀ σ, Sol σ D' ↔ Sol σ D ∧ xs.map (subT σ) = ys.map (subT σ)) ∧
    (r = false → ∀ σ, Sol σ D → xs.map (subT σ) ≠ ys.map (subT σ))
def JAll (S : List Tm) (m n : Nat) : Prop := ∀ D a b, Fo D → InS S D → a ∈ S → b ∈ S → m ≤ n + D.length → ∃ D' r, joinP n D a b = some (D', r) ∧ JOk S D [a] [b] D' r
theorem joinA_ok {S : List Tm} {m n : Nat} (H : JAll S m n) : ∀ (xs ys : List Tm) (D : Cls), xs.length = ys.length → (∀ x ∈ xs, x ∈ S) → (∀ y ∈ ys, y ∈ S) → Fo D → InS S D → m ≤ n + D.length →
    ∃ D' r, joinA (joinP n) D xs ys = some (D', r) ∧ JOk S D xs ys D' r
  | [], [], D, _, _, _, hF, hI, _ => ⟨D, true, rfl, [], rfl, hF, hI, fun _ => ⟨rfl, fun _ h => by (cases h), fun σ => by simp⟩, fun h => by cases h⟩
  | [], _ :: _, _, hl, _, _, _, _, _ => by simp at hl
  | _ :: _, [], _, hl, _, _, _, _, _ => by simp at hl
  | x :: xs, y :: ys, D, hl, hx, hy, hF, hI, hm => by
    obtain ⟨D1, r1, e1, E1, rfl, hF1, hI1, ht1, hf1⟩ := H D x y hF hI (hx x (by simp)) (hy y (by simp)) hm
    unfold joinA
    rw [e1]
    cases r1
    · refine ⟨E1 ++ D, false, rfl, E1, rfl, hF1, hI1, fun h => (by cases h), fun _ σ hs => ?_⟩
      have := hf1 rfl σ hs
      simp only [List.map_cons, List.map_nil] at this ⊢
      intro h
      injection h with h1 _
      exact this (by rw [h1])
    · obtain ⟨D2, r2, e2, E2, rfl, hF2, hI2, ht2, hf2⟩ := joinA_ok H xs ys (E1 ++ D) (by simpa using hl) (fun z hz => hx z (by simp [hz])) (fun z hz => hy z (by simp [hz])) hF1 hI1 (by rw [List.length_append]; omega)
      obtain ⟨t1, t2, t3⟩ := ht1 rfl
      simp only [List.map_cons, List.map_nil] at t1 t3
      injection t1 with t1 _
      refine ⟨_, r2, e2, E2 ++ E1, (List.append_assoc _ _ _).symm, hF2, hI2, fun hr => ?_, fun hr σ hs => ?_⟩
      · obtain ⟨u1, u2, u3⟩ := ht2 hr
        refine ⟨?_, fun e he => ?_, fun σ => ?_⟩
        · rw [List.map_cons, List.map_cons, u1, ldr_app E2 (E1 ++ D) x, ldr_app E2 (E1 ++ D) y, t1]
        · rcases List.mem_append.1 he with h | h
          · exact u2 e h
          · exact cle_app (t2 e h)
        · rw [u3, t3, List.map_cons, List.map_cons]
          constructor
          · rintro ⟨⟨a, b⟩, c⟩
            injection b with b _
            exact ⟨a, by rw [b, c]⟩
          · rintro ⟨a, b⟩
            injection b with b c
            exact ⟨⟨a, by rw [b]⟩, c⟩
      · intro h
        rw [List.map_cons, List.map_cons] at h
        injection h with h1 h2
        exact hf2 hr σ ((t3 σ).2 ⟨hs, by rw [h1]⟩) h2
theorem isv_same {x y : Tm} (h1 : x.nm = y.nm) (h2 : x.args.length = y.args.length) : isV x = isV y := by
  unfold isV
  rw [h1]
  have : x.args.isEmpty = y.args.isEmpty := by
    cases hx : x.args <;> cases hy : y.args <;> rw [hx, hy] at h2 <;> simp at h2 <;> rfl
  rw [this]
theorem head_iff (x y : Tm) : headE x y = true ↔ x.nm = y.nm ∧ x.args.length = y.args.length := by
  unfold headE
  rw [Bool.and_eq_true, eqB_iff, decide_eq_true_iff]
theorem sub_fun' (σ : Sb) (t : Tm) (h : isV t = false) : subT σ t = .mk t.nm (t.args.map (subT σ)) := by
  obtain ⟨n, l⟩ := t
  exact sub_fun σ n l h
theorem joinB_ok {S : List Tm} (hS : ∀ x ∈ S, V x) (hc : ∀ x ∈ S, ∀ y ∈ x.args, y ∈ S) {m n : Nat} (H : JAll S m n) {D : Cls} {x y : Tm} (hF : Fo D) (hI : InS S D) (hx : x ∈ S) (hy : y ∈ S) (nx : lookK D (textT x) = none) (ny : lookK D (textT y) = none)
    (hne : x ≠ y) (hv : isV x = true → isV y = true ∧ ltB x.nm y.nm = true) (hm : m ≤ n + 1 + D.length) : ∃ D' r, joinB (joinP n) D x y = some (D', r) ∧ JOk S D [x] [y] D' r := by
  have hF1 : Fo ((textT y, x) :: D) := Fo.step hF (hS x hx) (hS y hy) nx ny hne hv
  have hI1 : InS S ((textT y, x) :: D) := by
    intro e he
    rcases List.mem_cons.1 he with rfl | he
    · exact ⟨hx, y, hy, rfl⟩
    · exact hI e he
  have lx : ldr ((textT y, x) :: D) x = x := by
    unfold ldr
    rw [ldr_none hF nx, if_neg (fun h => text_ne (hS x hx) (hS y hy) hne h.symm)]
  have ly : ldr ((textT y, x) :: D) y = x := by
    unfold ldr
    rw [ldr_none hF ny, if_pos rfl]
  unfold joinB
  by_cases hyv : isV y = true
  · rw [if_pos hyv]
    refine ⟨_, true, rfl, [(textT y, x)], rfl, hF1, hI1, fun _ => ⟨by simp [lx, ly], fun e he => ?_, fun σ => ?_⟩, fun h => by cases h⟩
    · obtain rfl := List.mem_singleton.1 he
      intro z hz hzt hzv
      rw [(valid_text (hS z hz) (hS y hy)).1 hzt, hyv] at hzv
      cases hzv
    · rw [sol_cons (hS y hy)]
      simp only [List.map_cons, List.map_nil, List.cons.injEq, and_true]
      exact ⟨fun h => ⟨h.1, h.2.symm⟩, fun h => ⟨h.1, h.2.symm⟩⟩
  · have hyf : isV y = false := by simpa using hyv
    have hxf : isV x = false := by
      cases h : isV x
      · rfl
      · exact absurd (hv h).1 hyv
    rw [if_neg hyv]
    by_cases hh : headE x y = true
    · rw [if_pos hh]
      obtain ⟨h1, h2⟩ := (head_iff x y).1 hh
      obtain ⟨D', r, e, E, rfl, hF2, hI2, ht, hf⟩ := joinA_ok H x.args y.args ((textT y, x) :: D) h2 (hc x hx) (hc y hy) hF1 hI1 (by simp only [List.length_cons]; omega)
      have key : ∀ σ, x.args.map (subT σ) = y.args.map (subT σ) ↔ subT σ x = subT σ y := by
        intro σ
        rw [sub_fun' σ x hxf, sub_fun' σ y hyf, h1]
        simp
      refine ⟨_, r, e, E ++ [(textT y, x)], by simp, hF2, hI2, fun hr => ?_, fun hr σ hs => ?_⟩
      · obtain ⟨u1, u2, u3⟩ := ht hr
        refine ⟨?_, fun z hz => ?_, fun σ => ?_⟩
        · simp only [List.map_cons, List.map_nil]
          rw [ldr_app E _ x, ldr_app E _ y, lx, ly]
        · rcases List.mem_append.1 hz with h | h
          · exact u2 z h
          · obtain rfl := List.mem_singleton.1 h
            intro q hq hqt hqv
            rw [(valid_text (hS q hq) (hS y hy)).1 hqt]
            exact ⟨h1, u1⟩
        · rw [u3, sol_cons (hS y hy), key]
          simp only [List.map_cons, List.map_nil, List.cons.injEq, and_true]
          constructor
          · rintro ⟨⟨a, _⟩, c⟩
            exact ⟨a, c⟩
          · rintro ⟨a, c⟩
            exact ⟨⟨a, c.symm⟩, c⟩
      · intro h
        simp only [List.map_cons, List.map_nil, List.cons.injEq, and_true] at h
        exact hf hr σ ((sol_cons (hS y hy)).2 ⟨hs, h.symm⟩) ((key σ).2 h)
    · rw [if_neg hh]
      refine ⟨_, false, rfl, [(textT y, x)], rfl, hF1, hI1, fun h => (by cases h), fun _ σ _ h => ?_⟩
      simp only [List.map_cons, List.map_nil, List.cons.injEq, and_true] at h
      rw [sub_fun' σ x hxf, sub_fun' σ y hyf] at h
      injection h with a b
      have b' := congrArg List.length b
      simp only [List.length_map] at b'
      exact hh ((head_iff x y).2 ⟨a, b'⟩)
theorem ledB_iff (a b : Tm) : ledB a b = true ↔ isV b = true ∧ (isV a = true → ltB a.nm b.nm = true) := by
  unfold ledB
  rw [Bool.and_eq_true, Bool.or_eq_true, Bool.not_eq_true']
  constructor
  · rintro ⟨h1, h2⟩
    refine ⟨h1, fun h => ?_⟩
    rcases h2 with h2 | h2
    · rw [h] at h2; cases h2
    · exact h2
  · rintro ⟨h1, h2⟩
    refine ⟨h1, ?_⟩
    cases h : isV a
    · exact Or.inl rfl
    · exact Or.inr (h2 h)
theorem ltB_tri {a b : ByteArray} (h1 : ltB a b = false) (h2 : a ≠ b) : ltB b a = true := by
  have hn : ¬ lexB a.data.toList b.data.toList < 0 := fun h => by rw [lt_lex.2 h] at h1; cases h1
  rw [lt_lex]
  have h3 := lex_neg a.data.toList b.data.toList
  have h4 : lexB a.data.toList b.data.toList ≠ 0 := fun h => h2 (bytes_inj ((lex_zero _ _).1 h))
  omega
theorem join_ok {S : List Tm} (hS : ∀ x ∈ S, V x) (hc : ∀ x ∈ S, ∀ y ∈ x.args, y ∈ S) : ∀ n, JAll S (2 * S.length + 2) n
  | 0 => by
    intro D a b hF hI ha hb hm
    have := fo_len hF hI
    omega
  | n + 1 => by
    intro D a b hF hI ha hb hm
    have hl := fo_len hF hI
    unfold joinP
    rw [lead_n hF (by omega) a, lead_n hF (by omega) b]
    simp only [Option.bind_some]
    have ma := ins_ldr hI ha
    have mb := ins_ldr hI hb
    have ta := ldr_top hF a
    have tb := ldr_top hF b
    have sa : ∀ {σ}, Sol σ D → subT σ a = subT σ (ldr D a) := fun h => sol_ldr hF (hS a ha) h
    have sb : ∀ {σ}, Sol σ D → subT σ b = subT σ (ldr D b) := fun h => sol_ldr hF (hS b hb) h
    -- from the leaders to the terms
    have lift : ∀ {x y : Tm} {D' : Cls} {r : Bool}, x = ldr D a → y = ldr D b → JOk S D [x] [y] D' r → JOk S D [a] [b] D' r := by
      rintro x y D' r rfl rfl ⟨E, rfl, h1, h2, h3, h4⟩
      simp only [List.map_cons, List.map_nil, List.cons.injEq, and_true] at h3 h4
      refine ⟨E, rfl, h1, h2, fun hr => ?_, fun hr σ hs => ?_⟩
      · obtain ⟨u1, u2, u3⟩ := h3 hr
        simp only [List.map_cons, List.map_nil, List.cons.injEq, and_true]
        refine ⟨?_, u2, fun σ => ?_⟩
        · rw [ldr_app, ldr_app, ldr_idem hF, ldr_idem hF] at u1
          rw [ldr_app, ldr_app]
          exact u1
        · rw [u3]
          constructor
          · rintro ⟨h, e⟩; exact ⟨h, by rw [sa h, sb h, e]⟩
          · rintro ⟨h, e⟩; exact ⟨h, by rw [← sa h, ← sb h, e]⟩
      · simp only [List.map_cons, List.map_nil, ne_eq, List.cons.injEq, and_true]
        intro e
        have := h4 hr σ hs
        simp only [ne_eq, List.cons.injEq, and_true] at this
        exact this (by rw [← sa hs, ← sb hs, e])
    have turn : ∀ {x y : Tm} {D' : Cls} {r : Bool}, JOk S D [x] [y] D' r → JOk S D [y] [x] D' r := by
      rintro x y D' r ⟨E, rfl, h1, h2, h3, h4⟩
      exact ⟨E, rfl, h1, h2, fun hr => ⟨(h3 hr).1.symm, (h3 hr).2.1, fun σ => by rw [(h3 hr).2.2]; exact ⟨fun h => ⟨h.1, h.2.symm⟩, fun h => ⟨h.1, h.2.symm⟩⟩⟩, fun hr σ hs e => h4 hr σ hs e.symm⟩
    by_cases hz : cmpT (ldr D a) (ldr D b) = 0
    · rw [if_pos hz]
      have e := (cmp_zero _ _).1 hz
      refine ⟨D, true, rfl, [], rfl, hF, hI, fun _ => ⟨by simp [e], fun _ h => by (cases h), fun σ => ?_⟩, fun h => by cases h⟩
      simp only [List.map_cons, List.map_nil, List.cons.injEq, and_true]
      exact ⟨fun h => ⟨h, by rw [sa h, sb h, e]⟩, fun h => h.1⟩
    · rw [if_neg hz]
      have hne : ldr D a ≠ ldr D b := fun e => hz ((cmp_zero _ _).2 e)
      have IH := join_ok hS hc n
      by_cases hL : ledB (ldr D b) (ldr D a) = true
      · rw [if_pos hL]
        obtain ⟨h1, h2⟩ := (ledB_iff _ _).1 hL
        obtain ⟨D', r, e, hj⟩ := joinB_ok hS hc IH hF hI mb ma tb ta (fun e => hne e.symm) (fun h => ⟨h1, h2 h⟩) (by omega)
        exact ⟨D', r, e, lift rfl rfl (turn hj)⟩
      · rw [if_neg hL]
        obtain ⟨D', r, e, hj⟩ := joinB_ok hS hc IH hF hI ma mb ta tb hne (fun h => by
          -- the first leads although it is a variable: so is the second one, which is greater
          have hb : isV (ldr D b) = true ∧ ltB (ldr D b).nm (ldr D a).nm = false := by
            cases hbv : isV (ldr D b)
            · exact absurd ((ledB_iff _ _).2 ⟨h, fun h' => by rw [hbv] at h'; cases h'⟩) hL
            · cases hlt : ltB (ldr D b).nm (ldr D a).nm
              · exact ⟨rfl, rfl⟩
              · exact absurd ((ledB_iff _ _).2 ⟨h, fun _ => hlt⟩) hL
          refine ⟨hb.1, ltB_tri hb.2 fun e => hne ?_⟩
          rw [(isv_args h).1, (isv_args hb.1).1, e]) (by omega)
        exact ⟨D', r, e, lift rfl rfl hj⟩
end UnuB
end Go.Proofs.YtjfgnmmcdgpiiaaGreatDoor
/- The variables that two substitutions bind, ascending, each once; the code's composition as plain data equals the reference's. No conditions. -/
namespace Go.Proofs.YtjfgnmmcdgpiiaaGreatDoor
open Go Go.RowKit
namespace UnnC
open LexM TermM TermI Kit TermN TermU UniK UniM UniA UniC UniD UniE UniG UniH UniJ UniO UniP UniR UnjA UnmE
theorem lt_list : ∀ x y : List UInt8, x < y ↔ lexB x y < 0
  | [], [] => by simp [lexB]
  | [], b :: y => by simp [lexB]
  | a :: x, [] => by simp [lexB]
  | a :: x, b :: y => by
    rw [List.cons_lt_cons_iff, lt_list x y, show lexB (a :: x) (b :: y) = thn (sg a.toNat b.toNat) (lexB x y) by rw [lexB]]
    unfold thn sg
    rw [UInt8.lt_iff_toNat_lt, ← UInt8.toNat_inj]
    by_cases h1 : a.toNat < b.toNat
    · simp [h1]
    · by_cases h2 : b.toNat < a.toNat
      · simp [h1, h2]
        omega
      · have h3 : a.toNat = b.toNat := by omega
        simp [h3]
theorem le_list (x y : List UInt8) : x ≤ y ↔ lexB x y ≤ 0 := by
  have h : x ≤ y ↔ ¬ (y < x) := Iff.rfl
  rw [h, lt_list, lex_neg x y]
  omega
theorem lex_trans {x y z : List UInt8} (h1 : lexB x y ≤ 0) (h2 : lexB y z ≤ 0) : lexB x z ≤ 0 := (tri_lex x y z).1 h1 h2
theorem sorted (ls : List (List UInt8)) : (ls.mergeSort fun x y => decide (x ≤ y)).Pairwise fun x y => lexB x y ≤ 0 := by
  have h := List.pairwise_mergeSort (le := fun x y : List UInt8 => decide (x ≤ y)) (fun a b c h1 h2 => by
    simp only [decide_eq_true_eq, le_list] at h1 h2 ⊢
    exact lex_trans h1 h2) (fun a b => by
    simp only [Bool.or_eq_true, decide_eq_true_eq, le_list]
    rw [lex_neg a b]
    omega) ls
  exact h.imp fun h => by simpa [le_list] using h
theorem compact_upto (d : Array (List UInt8)) (hs : ∀ i j, i < j → j < d.size → lexB d[i]! d[j]! ≤ 0) : ∀ m, m ≤ d.size →
    (∀ x ∈ Lib.compactUpTo d m, ∃ j, j < m ∧ d[j]! = x) ∧ (∀ j, j < m → d[j]! ∈ Lib.compactUpTo d m) ∧ (Lib.compactUpTo d m).Pairwise fun x y => lexB x y < 0
  | 0, _ => ⟨fun x hx => by simp [Lib.compactUpTo] at hx, fun j hj => by omega, by simp [Lib.compactUpTo]⟩
  | m + 1, hm => by
    obtain ⟨h1, h2, h3⟩ := compact_upto d hs m (by omega)
    rw [Lib.compactUpTo_succ]
    by_cases hk : Lib.keeps d m = true
    · rw [if_pos hk]
      refine ⟨fun x hx => ?_, fun j hj => ?_, ?_⟩
      · rcases List.mem_append.1 hx with hx | hx
        · obtain ⟨j, a, b⟩ := h1 x hx; exact ⟨j, by omega, b⟩
        · obtain rfl := List.mem_singleton.1 hx; exact ⟨m, by omega, rfl⟩
      · by_cases e : j = m
        · subst e; simp
        · exact List.mem_append_left _ (h2 j (by omega))
      · refine List.pairwise_append.2 ⟨h3, by simp, fun a ha b hb => ?_⟩
        obtain rfl := List.mem_singleton.1 hb
        obtain ⟨j, hj, rfl⟩ := h1 a ha
        have hm0 : m ≠ 0 := by omega
        have hne : d[m]! ≠ d[m - 1]! := by
          unfold Lib.keeps at hk
          rcases of_decide_eq_true hk with h | h
          · exact absurd h hm0
          · exact h
        have a1 : lexB d[m - 1]! d[m]! ≤ 0 := hs (m - 1) m (by omega) (by omega)
        have a2 : lexB d[m - 1]! d[m]! ≠ 0 := fun h => hne ((lex_zero _ _).1 h).symm
        by_cases e : j = m - 1
        · subst e; omega
        · exact (tri_lex d[j]! d[m - 1]! d[m]!).2.2.1 (hs j (m - 1) (by omega) (by omega)) (by omega)
    · rw [if_neg hk, List.append_nil]
      refine ⟨fun x hx => ?_, fun j hj => ?_, h3⟩
      · obtain ⟨j, a, b⟩ := h1 x hx; exact ⟨j, by omega, b⟩
      · by_cases e : j = m
        · subst e
          unfold Lib.keeps at hk
          have hk' : ¬ (j = 0 ∨ d[j]! ≠ d[j - 1]!) := fun h => hk (decide_eq_true h)
          have h0 : j ≠ 0 := fun h => hk' (Or.inl h)
          have h9 : d[j]! = d[j - 1]! := Decidable.not_not.1 (fun h => hk' (Or.inr h))
          rw [h9]
          exact h2 (j - 1) (by omega)
        · exact h2 j (by omega)
/-- The variables, ascending, each once. -/
def bvars (s t : List Bd) : List ByteArray := bytesOf (Lib.compact ((lists (names s t)).mergeSort fun x y => decide (x ≤ y)))
theorem compact_srt (ls : List (List UInt8)) (hs : ls.Pairwise fun x y => lexB x y ≤ 0) : (∀ x, x ∈ Lib.compact ls ↔ x ∈ ls) ∧ (Lib.compact ls).Pairwise fun x y => lexB x y < 0 := by
  have hg : ∀ i, i < ls.length → ls.toArray[i]! = ls[i]! := fun i hi => by rw [getElem!_pos _ i (by simpa using hi), getElem!_pos _ i hi]; simp
  obtain ⟨h1, h2, h3⟩ := compact_upto ls.toArray (fun i j hij hj => by
    have hj' : j < ls.length := by simpa using hj
    rw [hg i (by omega), hg j hj', getElem!_pos _ i (by omega), getElem!_pos _ j hj']
    exact List.pairwise_iff_getElem.1 hs i j (by omega) hj' hij) ls.length (by simp)
  refine ⟨fun x => ⟨fun h => ?_, fun h => ?_⟩, h3⟩
  · obtain ⟨j, hj, rfl⟩ := h1 x h
    rw [hg j hj, getElem!_pos _ j hj]
    exact List.getElem_mem hj
  · obtain ⟨j, hj, rfl⟩ := List.mem_iff_getElem.1 h
    have := h2 j hj
    rwa [hg j hj, getElem!_pos _ j hj] at this
theorem bvars_mem (s t : List Bd) (v : ByteArray) : v ∈ bvars s t ↔ v ∈ names s t := by
  unfold bvars bytesOf lists
  rw [List.mem_map]
  constructor
  · rintro ⟨l, hl, rfl⟩
    have := ((compact_srt _ (sorted _)).1 l).1 hl
    rw [List.mem_mergeSort, List.mem_map] at this
    obtain ⟨x, hx, rfl⟩ := this
    exact hx
  · intro h
    refine ⟨v.data.toList, ((compact_srt _ (sorted _)).1 _).2 ?_, rfl⟩
    rw [List.mem_mergeSort]
    exact List.mem_map.2 ⟨v, h, rfl⟩
theorem bvars_srt (s t : List Bd) : (bvars s t).Pairwise fun x y => lexB x.data.toList y.data.toList < 0 := by
  unfold bvars bytesOf
  rw [List.pairwise_map]
  exact (compact_srt _ (sorted _)).2
/-- What becomes of a variable. -/
def img (s t : List Bd) (v : ByteArray) : Tm := appT t (appT s (.mk v []))
def keepsV (s t : List Bd) (v : ByteArray) : Bool := !(cmpT (img s t v) (.mk v []) == 0)
/-- The code's composition. -/
def codeC (s t : List Bd) : List ByteArray → List Bd
  | [] => []
  | v :: l => if keepsV s t v = true then (v, img s t v) :: codeC s t l else codeC s t l
theorem code_mem (s t : List Bd) : ∀ l (x : Bd), x ∈ codeC s t l ↔ x.1 ∈ l ∧ keepsV s t x.1 = true ∧ x.2 = img s t x.1
  | [], x => by simp [codeC]
  | v :: l, x => by
    unfold codeC
    by_cases h : keepsV s t v = true
    · rw [if_pos h, List.mem_cons, code_mem s t l x, List.mem_cons]
      constructor
      · rintro (rfl | ⟨a, b⟩)
        · exact ⟨Or.inl rfl, h, rfl⟩
        · exact ⟨Or.inr a, b⟩
      · rintro ⟨a | a, b, c⟩
        · left
          obtain ⟨x1, x2⟩ := x
          dsimp only at a b c
          subst a c
          rfl
        · exact Or.inr ⟨a, b, c⟩
    · rw [if_neg h, code_mem s t l x, List.mem_cons]
      constructor
      · rintro ⟨a, b⟩; exact ⟨Or.inr a, b⟩
      · rintro ⟨a | a, b, c⟩
        · rw [a] at b; exact absurd b h
        · exact ⟨a, b, c⟩
theorem code_srt (s t : List Bd) : ∀ l : List ByteArray, l.Pairwise (fun x y => lexB x.data.toList y.data.toList < 0) → Srt (codeC s t l)
  | [], _ => fun i j x y _ hx => by simp [codeC] at hx
  | v :: l, h => by
    have h1 := List.pairwise_cons.1 h
    unfold codeC
    by_cases hk : keepsV s t v = true
    · rw [if_pos hk]
      refine srt_cons (code_srt s t l h1.2) fun y hy => ?_
      exact h1.1 _ ((code_mem s t l y).1 hy).1
    · rw [if_neg hk]
      exact code_srt s t l h1.2
theorem look_mem {s : List Bd} {v : ByteArray} {u : Tm} (h : lookS s v = some u) : (v, u) ∈ s := by
  unfold lookS at h
  cases hf : s.find? (fun b => eqB b.1 v) with
  | none => rw [hf] at h; cases h
  | some y =>
    rw [hf] at h
    have h1 := List.mem_of_find?_eq_some hf
    have h2 := List.find?_some hf
    rw [eqB_iff] at h2
    obtain ⟨y1, y2⟩ := y
    dsimp only at h2
    subst h2
    have : y2 = u := by simpa using h
    subst this
    exact h1
theorem look_not_mem {s : List Bd} {v : ByteArray} (h : lookS s v = none) : ∀ x ∈ s, x.1 ≠ v := by
  intro x hx e
  unfold lookS at h
  rw [Option.map_eq_none_iff, List.find?_eq_none] at h
  exact h x hx (by rw [eqB_iff]; exact e)
theorem comp_spec (s t : List Bd) : ∀ k, k ≤ (names s t).length → Srt (compF s t k) ∧ ∀ x : Bd, x ∈ compF s t k ↔ x.1 ∈ (names s t).take k ∧ keepsV s t x.1 = true ∧ x.2 = img s t x.1
  | 0, _ => ⟨fun i j x y _ hx => by simp [compF] at hx, fun x => by simp [compF]⟩
  | k + 1, h => by
    obtain ⟨h1, h2⟩ := comp_spec s t k (by omega)
    have hk : k < (names s t).length := by omega
    have hv : (names s t)[k]? = some (names s t)[k] := List.getElem?_eq_getElem hk
    generalize (names s t)[k] = v at hv
    have e1 : (names s t).take (k + 1) = (names s t).take k ++ [v] := take_get _ k v hv
    rw [comp_next s t k v hv]
    unfold cstep
    have hkv : keepsV s t v = !(cmpT (appT t (appT s (.mk v []))) (.mk v []) == 0) := rfl
    rw [← hkv]
    have key : ∀ x : Bd, (x.1 ∈ (names s t).take (k + 1) ∧ keepsV s t x.1 = true ∧ x.2 = img s t x.1) ↔ ((x.1 = v ∧ keepsV s t v = true ∧ x.2 = img s t v) ∨ x ∈ compF s t k) := by
      intro x
      rw [e1, List.mem_append, List.mem_singleton, h2]
      constructor
      · rintro ⟨a | a, b, c⟩
        · exact Or.inr ⟨a, b, c⟩
        · exact Or.inl ⟨a, by rw [← a]; exact b, by rw [← a]; exact c⟩
      · rintro (⟨a, b, c⟩ | ⟨a, b, c⟩)
        · exact ⟨Or.inr a, by rw [a]; exact b, by rw [a]; exact c⟩
        · exact ⟨Or.inl a, b, c⟩
    by_cases hc : ((lookS (compF s t k) v).isNone && keepsV s t v) = true
    · rw [if_pos hc]
      rw [Bool.and_eq_true] at hc
      have hn : lookS (compF s t k) v = none := by
        cases hl : lookS (compF s t k) v with
        | none => rfl
        | some u => rw [hl] at hc; simp at hc
      refine ⟨put_srt v _ _ h1 hn, fun x => ?_⟩
      rw [put_mem, key]
      constructor
      · rintro (rfl | a)
        · exact Or.inl ⟨rfl, hc.2, rfl⟩
        · exact Or.inr a
      · rintro (⟨a, _, c⟩ | a)
        · left
          obtain ⟨x1, x2⟩ := x
          dsimp only at a c
          rw [a, c]
          rfl
        · exact Or.inr a
    · rw [if_neg hc]
      refine ⟨h1, fun x => ?_⟩
      rw [key]
      constructor
      · intro a; exact Or.inr a
      · rintro (⟨a, b, c⟩ | a)
        · cases hl : lookS (compF s t k) v with
          | none => rw [hl, b] at hc; simp at hc
          | some u =>
            have hm := look_mem hl
            have hu := ((h2 (v, u)).1 hm).2.2
            obtain ⟨x1, x2⟩ := x
            dsimp only at a c hu
            rw [a, c, ← hu]
            exact hm
        · exact a
/-- Two ascending lists with the same bindings are equal. -/
theorem srt_eq : ∀ (a b : List Bd), Srt a → Srt b → (∀ x, x ∈ a ↔ x ∈ b) → a = b
  | [], [], _, _, _ => rfl
  | [], y :: b, _, _, h => by have := (h y).2 (by simp); simp at this
  | x :: a, [], _, _, h => by have := (h x).1 (by simp); simp at this
  | x :: a, y :: b, ha, hb, h => by
    have irr : ∀ z : List UInt8, ¬ lexB z z < 0 := fun z h => by have := (lex_zero z z).2 rfl; omega
    have hxy : x = y := by
      rcases List.mem_cons.1 ((h x).1 (by simp)) with e | e
      · exact e
      · rcases List.mem_cons.1 ((h y).2 (by simp)) with e' | e'
        · exact e'.symm
        · have a1 := srt_head hb e
          have a2 := srt_head ha e'
          have := lex_neg y.1.data.toList x.1.data.toList
          omega
    subst hxy
    congr 1
    refine srt_eq a b (srt_tail ha) (srt_tail hb) fun z => ⟨fun hz => ?_, fun hz => ?_⟩
    · rcases List.mem_cons.1 ((h z).1 (List.mem_cons_of_mem _ hz)) with e | e
      · subst e; exact absurd (srt_head ha hz) (irr _)
      · exact e
    · rcases List.mem_cons.1 ((h z).2 (List.mem_cons_of_mem _ hz)) with e | e
      · subst e; exact absurd (srt_head hb hz) (irr _)
      · exact e
/-- The code's composition is the reference's. -/
theorem comp_eq (s t : List Bd) : codeC s t (bvars s t) = compF s t (names s t).length := by
  obtain ⟨h1, h2⟩ := comp_spec s t (names s t).length (Nat.le_refl _)
  refine srt_eq _ _ (code_srt s t _ (bvars_srt s t)) h1 fun x => ?_
  rw [code_mem, h2, List.take_length, bvars_mem]
end UnnC
end Go.Proofs.YtjfgnmmcdgpiiaaGreatDoor
