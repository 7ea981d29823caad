/- Texts laid together: UnmA; UnmB; UnmC; UniH; UnmD; UnmE; UniQ; UnmF; UnmG; UniF; UnmH; UnmI; UnmJ; TermJ. Their own heads stand before each. -/
import Derived.Test.YtihbnonbhelbmaaGreatDoorUniL
import Derived.Test.YtihbnonbhelbmaaGreatDoorTermE
import Derived.Test.YtihbnonbhelbmaaGreatDoorTermT
import Derived.Maps.OwnSet
import Derived.Deep.LoopGhost
import Derived.Test.YtihbnonbhelbmaaGreatDoorTermR
import Derived.Deep.RegionLaw
import Derived.Deep.RegionWith
import Derived.Deep.DeepCutAuto
import Derived.BigQuiet
import Derived.Test.YtihbnonbhelbmaaGreatDoorUniG
import Derived.IntWalk
import Derived.Sort.EncStr
import Derived.Sort.Grow
import Derived.Test.YtihbnonbhelbmaaGreatDoorUniP
import Derived.Test.YtihbnonbhelbmaaGreatDoorUniR
import Derived.Test.YtihbnonbhelbmaaGreatDoorTermH
import Derived.Test.YtihbnonbhelbmaaGreatDoorShelf
import Derived.Test.YtihbnonbhelbmaaGreatDoorUniE
import Derived.OwnWalk
import Derived.Laws.OwnMore
import Derived.Test.YtihbnonbhelbmaaGreatDoorUniO
import Derived.Deep.DeepHandedRow
import Derived.Lib.LaidTab
import Derived.LaidSub
import Derived.OpenShut
import Derived.Deep.RegionHeld
/- Classes of terms as plain data, with fuel; and a map of the call's own whose elements are held as they are. No conditions. -/
namespace Go.Proofs.YtihbnonbhelbmaaGreatDoor
open Go Go.RowKit Go.Maps Go.WideMaps
namespace UnmA
open LexM TermM TermI Kit TermN TermU UniM UniG TermT
abbrev Ky := List UInt8
def lookK {α : Type} (L : List (Ky × α)) (s : Ky) : Option α := (L.find? fun x => x.1 == s).map (·.2)
theorem lookK_cons {α : Type} (x : Ky × α) (L : List (Ky × α)) (s : Ky) : lookK (x :: L) s = if x.1 = s then some x.2 else lookK L s := by
  unfold lookK
  rw [List.find?_cons]
  by_cases h : x.1 = s
  · rw [if_pos h, beq_iff_eq.2 h]; rfl
  · rw [if_neg h, beq_eq_false_iff_ne.2 h]
theorem lookK_map {α β : Type} (f : α → β) (L : List (Ky × α)) (s : Ky) : lookK (L.map fun x => (x.1, f x.2)) s = (lookK L s).map f := by
  induction L with
  | nil => rfl
  | cons x L ih =>
    rw [List.map_cons, lookK_cons, lookK_cons, ih]
    by_cases h : x.1 = s
    · rw [if_pos h, if_pos h]; rfl
    · rw [if_neg h, if_neg h]
theorem lookK_mem {α : Type} {L : List (Ky × α)} {s : Ky} {x : α} (h : lookK L s = some x) : (s, x) ∈ L := by
  induction L with
  | nil => cases h
  | cons y L ih =>
    rw [lookK_cons] at h
    by_cases c : y.1 = s
    · rw [if_pos c] at h
      cases h
      rw [← c]
      exact List.mem_cons_self
    · rw [if_neg c] at h
      exact List.mem_cons_of_mem _ (ih h)
/-- What a map reads as, the latest entry first. -/
def DataOf (L : List (Ky × Value)) : DataW Value := L.foldr (fun x D => D.put (.string x.1) (.held x.2)) (.map [])
def heldE : Value → Option (DataW Value × List MemPlace) := fun v => some (.held v, [])
theorem data_map : ∀ L, IsMap (DataOf L)
  | [] => isMap_empty
  | _ :: L => (data_map L).put _ _
theorem has_data (s : Ky) : ∀ L, Maps.has (DataOf L) (.string s) = (lookK L s).isSome
  | [] => rfl
  | x :: L => by
    rw [lookK_cons]
    by_cases h : x.1 = s
    · rw [if_pos h, ← h]
      exact has_put_same (data_map L) (show WideAt.IsKeyLit (.string x.1) from trivial) _
    · rw [if_neg h, ← has_data s L]
      exact has_put_other (by intro e; injection e with e; exact h e.symm) _
theorem at_data (s : Ky) (z : Value) : ∀ L, (DataOf L).atKey (.string s) (.held z) = .held ((lookK L s).getD z)
  | [] => rfl
  | x :: L => by
    rw [lookK_cons]
    by_cases h : x.1 = s
    · rw [if_pos h, ← h]
      exact atKey_put_same (data_map L) (show WideAt.IsKeyLit (.string x.1) from trivial) _ _
    · rw [if_neg h, ← at_data s z L]
      exact atKey_put_other (by intro e; injection e with e; exact h e.symm) _ _
set_option maxRecDepth 100000 in
theorem look_held {w : World} {b n : Nat} {L : List (Ky × Value)} {t e : TypeId} {z : Value} (h : w.ownsMap Tryz.prog 9 heldE b n (DataOf L)) (ht : Tryz.prog.underlying t = some (.map 9 e)) (hz : (zeroValue e).run Tryz.prog w = .ok z w) (s : ByteArray) (hs : s.size ≤ maxLen) :
    (Instr.lookup t (.map (some b)) (.string s) true).run Tryz.prog w = .ok (.tuple #[(lookK L s.data.toList).getD z, .bool (lookK L s.data.toList).isSome]) w := by
  obtain ⟨v, ps, hrun, hv⟩ := h.look_ok TermE.law ht hz (show heldE z = some (.held z, []) from rfl) (keyOf_string_mk Tryz.underlying9 hs)
  rw [at_data] at hv
  rw [has_data] at hrun
  unfold heldE at hv
  injection hv with hv
  injection hv with hv _
  injection hv with hv
  rw [hrun, hv]
/-! ### The plain functions -/
abbrev Cls := List (Ky × Tm)
def leadP (D : Cls) : Nat → Tm → Option Tm
  | 0, _ => none
  | n + 1, t => match lookK D (textT t) with
    | none => some t
    | some u => leadP D n u
def ledB (a b : Tm) : Bool := isV b && (!isV a || ltB a.nm b.nm)
def joinA (f : Cls → Tm → Tm → Option (Cls × Bool)) : Cls → List Tm → List Tm → Option (Cls × Bool)
  | D, x :: xs, y :: ys => match f D x y with
    | none => none
    | some (D', false) => some (D', false)
    | some (D', true) => joinA f D' xs ys
  | D, _, _ => some (D, true)
def headE (x y : Tm) : Bool := eqB x.nm y.nm && decide (x.args.length = y.args.length)
def joinB (f : Cls → Tm → Tm → Option (Cls × Bool)) (D : Cls) (x y : Tm) : Option (Cls × Bool) :=
  if isV y = true then some ((textT y, x) :: D, true) else if headE x y = true then joinA f ((textT y, x) :: D) x.args y.args else some ((textT y, x) :: D, false)
def joinP : Nat → Cls → Tm → Tm → Option (Cls × Bool)
  | 0, _, _, _ => none
  | n + 1, D, a, b => (leadP D n a).bind fun a => (leadP D n b).bind fun b =>
    if cmpT a b = 0 then some (D, true) else if ledB b a = true then joinB (joinP n) D b a else joinB (joinP n) D a b
def mapO {α β : Type} (f : α → Option β) : List α → Option (List β)
  | [] => some []
  | x :: l => (f x).bind fun y => (mapO f l).map fun r => y :: r
def resP (D : Cls) (n : Nat) : Nat → Tm → Option Tm
  | 0, t => (leadP D n t).map fun l => .mk l.nm []
  | d + 1, t => (leadP D n t).bind fun l => (mapO (resP D n d) l.args).map fun r => .mk l.nm r
def solP (D : Cls) (n : Nat) : List ByteArray → Option (List Bd)
  | [] => some []
  | v :: l => (resP D n 4 (.mk v [])).bind fun t => (solP D n l).map fun s => if eqB t.nm v = true then s else (v, t) :: s
/-- Is it a term whose text can be had? -/
def Ok (t : Tm) : Prop := t.nm.size ≤ maxLen ∧ (textT t).length ≤ 1000000 ∧ sizeT t ≤ 1000000
theorem Ok.arg {t x : Tm} (h : Ok t) (hx : x ∈ t.args) (hn : x.nm.size ≤ maxLen) : Ok x := by
  obtain ⟨n, l⟩ := t
  obtain ⟨_, h1, h2⟩ := h
  obtain ⟨i, hi⟩ := List.mem_iff_getElem?.1 hx
  have h3 := (text_get hi).1
  have hne : l.isEmpty = false := by cases l with | nil => cases hx | cons a r => rfl
  refine ⟨hn, ?_, ?_⟩
  · simp only [Tm.args] at hi h3
    have h4 : (textT (.mk n l)).length = n.data.toList.length + (1 + (((tailT l).drop 1).length + 1)) := by
      simp [textT, hne]
      omega
    rw [List.length_drop] at h4
    omega
  · have h5 : sizeT (.mk n l) = 1 + sizeL l := by simp only [sizeT]; omega
    have h6 := UniD.size_mem hx
    simp only [Tm.args] at h6
    omega
theorem joinA_len {f : Cls → Tm → Tm → Option (Cls × Bool)} (hf : ∀ D x y D' r, f D x y = some (D', r) → D.length ≤ D'.length) : ∀ xs ys D D' r, joinA f D xs ys = some (D', r) → D.length ≤ D'.length
  | [], ys, D, D', r, h => by cases ys <;> (cases h; exact Nat.le_refl _)
  | x :: xs, [], D, D', r, h => by cases h; exact Nat.le_refl _
  | x :: xs, y :: ys, D, D', r, h => by
    unfold joinA at h
    cases he : f D x y with
    | none => rw [he] at h; cases h
    | some z =>
      obtain ⟨D1, b⟩ := z
      have h1 := hf _ _ _ _ _ he
      rw [he] at h
      cases b
      · cases h; exact h1
      · exact Nat.le_trans h1 (joinA_len hf xs ys D1 D' r h)
theorem joinB_len {f : Cls → Tm → Tm → Option (Cls × Bool)} (hf : ∀ D x y D' r, f D x y = some (D', r) → D.length ≤ D'.length) {D : Cls} {x y : Tm} {D' : Cls} {r : Bool} (h : joinB f D x y = some (D', r)) : D.length + 1 ≤ D'.length := by
  unfold joinB at h
  split at h
  · cases h; simp
  · split at h
    · have := joinA_len hf _ _ _ _ _ h
      simpa using this
    · cases h; simp
theorem joinP_len : ∀ n D a b D' r, joinP n D a b = some (D', r) → D.length ≤ D'.length
  | 0, D, a, b, D', r, h => by cases h
  | n + 1, D, a, b, D', r, h => by
    unfold joinP at h
    cases ha : leadP D n a with
    | none => rw [ha] at h; cases h
    | some x =>
      cases hb : leadP D n b with
      | none => rw [ha, hb] at h; cases h
      | some y =>
        rw [ha, hb] at h
        simp only [Option.bind_some] at h
        split at h
        · cases h; exact Nat.le_refl _
        · split at h
          · have := joinB_len (joinP_len n) h; omega
          · have := joinB_len (joinP_len n) h; omega
/-! ### In memory -/
/-- Block bm is the map of the classes; their terms lie below B. -/
def Cl (w : World) (bm B : Nat) (D : Cls) : Prop :=
  ∃ L : List (Ky × Tm × Value), D = L.map (fun x => (x.1, x.2.1)) ∧ w.ownsMap Tryz.prog 9 heldE bm D.length (DataOf (L.map fun x => (x.1, Value.agg #[.string x.2.1.nm, x.2.2]))) ∧ (∀ x ∈ L, SlIn (· < B) w x.2.1.args x.2.2 ∧ Ok x.2.1)
theorem Cl.lt {w : World} {bm B : Nat} {D : Cls} (h : Cl w bm B D) : bm < w.heap.size := by
  obtain ⟨L, _, h, _⟩ := h
  exact h.lt
theorem Cl.made (w : World) (B : Nat) : Cl (w.alloc (.map #[] 0)) w.heap.size B [] :=
  ⟨[], rfl, World.ownsMap_made _ _ _ _, fun x hx => by cases hx⟩
theorem Cl.keep {w w' : World} {bm B : Nat} {D : Cls} (h : Cl w bm B D) (hb : Below w.heap.size w w') (hB : B ≤ w.heap.size) : Cl w' bm B D := by
  have hl := h.lt
  obtain ⟨L, h1, h2, h3⟩ := h
  exact ⟨L, h1, h2.kept (row := none) ⟨hb.os, hb.tape, hb.output, hb.size, fun i hi _ => hb.block i hi⟩ (by simp), fun x hx => ⟨(h3 x hx).1.deep hb hB, (h3 x hx).2⟩⟩
/-- What a look-up answers. -/
theorem Cl.look {w : World} {bm B : Nat} {D : Cls} (h : Cl w bm B D) {t : TypeId} (ht : Tryz.prog.underlying t = some (.map 9 27)) (x : Tm) (hx : (textT x).length ≤ maxLen) :
    ∃ v, (Instr.lookup t (.map (some bm)) (.string ⟨(textT x).toArray⟩) true).run Tryz.prog w = .ok (.tuple #[v, .bool (lookK D (textT x)).isSome]) w ∧ (lookK D (textT x) = none → v = .agg #[.string ⟨#[]⟩, .slice none 0 0]) ∧ (∀ u, lookK D (textT x) = some u → ∃ uv, v = .agg #[.string u.nm, uv] ∧ SlIn (· < B) w u.args uv ∧ Ok u) := by
  obtain ⟨L, rfl, h2, h3⟩ := h
  have LK := look_held (z := .agg #[.string ⟨#[]⟩, .slice none 0 0]) h2 ht (by kernel_rfl) ⟨(textT x).toArray⟩ hx
  simp only [lookK_map (fun x : Tm × Value => Value.agg #[.string x.1.nm, x.2])] at LK
  simp only [lookK_map (fun x : Tm × Value => x.1)]
  rw [Option.isSome_map] at LK ⊢
  refine ⟨_, LK, ?_, ?_⟩
  · intro hn
    rw [Option.map_eq_none_iff] at hn
    rw [hn]
    rfl
  · intro u hu
    rw [Option.map_eq_some_iff] at hu
    obtain ⟨y, hy, rfl⟩ := hu
    rw [hy]
    exact ⟨y.2, rfl, (h3 _ (lookK_mem hy)).1, (h3 _ (lookK_mem hy)).2⟩
end UnmA
end Go.Proofs.YtihbnonbhelbmaaGreatDoor
/- leads and leader of the code's classes. Conditions: the map's terms have texts of at most a million bytes; the variable nameEnds holds its bytes. -/
namespace Go.Proofs.YtihbnonbhelbmaaGreatDoor
open Go Go.RowKit Go.Maps Go.WideMaps
namespace UnmB
open LexM TermM TermI Kit TermN TermU UniM UniG UniL UniD TermT UnmA
set_option maxRecDepth 100000 in
set_option maxHeartbeats 3200000 in
theorem leads_any (a b : Tm) (p q : Option Addr) (c d : Nat) (w : World) (ha : a.nm.size ≤ maxLen) (hb : b.nm.size ≤ maxLen) :
    Calls Tryz.prog 84 #[.agg #[.string a.nm, .slice p a.args.length c], .agg #[.string b.nm, .slice q b.args.length d]] w fun e w' => e = .returned (.bool (ledB a b)) ∧ Gr w w' := by
  have KA := Lib.hid (fun w' => cvar_t a p c w' ha)
  have KB := Lib.hid (fun w' => cvar_t b q d w' hb)
  obtain ⟨z, hz⟩ : ∃ z, Op.bytesLess a.nm.toList b.nm.toList = z := ⟨_, rfl⟩
  have HZ : ltB a.nm b.nm = z := by unfold ltB; rw [← hz, ByteArray.toList_eq, ByteArray.toList_eq]
  have E : ledB a b = (isV b && (!isV a || z)) := by unfold ledB; rw [HZ]
  rw [E]
  clear E HZ ha hb
  obtain ⟨W2, hW2⟩ : ∃ W2, W2 = (w.alloc (.cells #[.string a.nm, .slice p a.args.length c] 27)).alloc (.cells #[.string b.nm, .slice q b.args.length d] 27) := ⟨_, rfl⟩
  have G2 : Hid (Gr w W2) := Lib.hid (by rw [hW2]; exact (Gr.alloc _ _).more _)
  have H2 : Hid (Has W2 w.heap.size #[.string a.nm, .slice p a.args.length c]) := Lib.hid (by rw [hW2]; exact (Has.new w _ _).alloc _)
  have T2 : Hid (Has W2 (w.heap.size + 1) #[.string b.nm, .slice q b.args.length d]) := Lib.hid (by rw [hW2]; exact Has.new1 w _ _ _)
  have HH := Lib.hid (fun w' (k : Below W2.heap.size W2 w') => And.intro (H2.out.step0 k).two (T2.out.step0 k).two)
  clear H2 T2
  generalize isV a = x at *
  generalize isV b = y at *
  generalize a.nm = an at *
  generalize b.nm = bn at *
  generalize a.args.length = al at *
  generalize b.args.length = bl at *
  obtain ⟨⟨y1, y2, _⟩, z1, z2, _⟩ := HH.out _ (Below.refl _ _)
  go_enter Tryz.func84, Tryz.ntmps84
  go_upto_region 1 with fail
  rw [← hW2]
  clear hW2
  go_wp2_with fail
  refine (KB.out _).mono ?_
  rintro e w3 ⟨rfl, g3⟩
  obtain ⟨⟨y3, y4, _⟩, z3, z4, _⟩ := HH.out _ g3.1
  have D3 := Lib.hid (G2.out.trans g3)
  cases y
  · clear KA y1 y2 z1 z2 g3
    go_wp2_with fail
    go_ret
    exact ⟨rfl, D3.out⟩
  · clear y1 y2 z1 z2
    have S3 := Lib.hid g3
    clear g3
    go_wp2_with fail
    refine (KA.out _).mono ?_
    rintro e w4 ⟨rfl, g4⟩
    obtain ⟨⟨y5, y6, _⟩, z5, z6, _⟩ := HH.out _ (S3.out.trans g4).1
    have D4 := Lib.hid (D3.out.trans g4)
    clear y3 y4 z3 z4 g4 S3 KA KB
    cases x
    · go_wp2_with fail
      go_ret
      exact ⟨rfl, D4.out⟩
    · go_wp2_with fail
      go_ret
      exact ⟨rfl, D4.out⟩
/-- A term, in memory below B. -/
def TmR (r : Tm) (B : Nat) (w : World) (e : Ending) (w' : World) : Prop :=
  ∃ (p : Option Addr) (c : Nat), e = .returned (.agg #[.string r.nm, .slice p r.args.length c]) ∧ SlIn (· < B) w' r.args (.slice p r.args.length c) ∧ Ok r ∧ Below w.heap.size w w'
theorem put_agg {w : World} {g : Nat} {a b : Value} (h : Has w g #[a, b]) (u v : Value) : Has ((w.setCell ⟨g, 0, none⟩ u).setCell ⟨g, 1, none⟩ v) g #[u, v] := (h.set 0 u).set 1 v
theorem far_agg {w : World} {g k : Nat} {cs : Array Value} (hne : g ≠ k) (h : Has w g cs) (u v : Value) : Has ((w.setCell ⟨k, 0, none⟩ u).setCell ⟨k, 1, none⟩ v) g cs := (h.far (p := ⟨k, 0, none⟩) hne u).far (p := ⟨k, 1, none⟩) hne v
theorem slin_far {w : World} {B k : Nat} {l : List Tm} {v : Value} (h : SlIn (· < B) w l v) (hk : B ≤ k) (a b : Value) : SlIn (· < B) ((w.setCell ⟨k, 0, none⟩ a).setCell ⟨k, 1, none⟩ b) l v :=
  h.frame fun g o hg => by rw [cell_far (by show g ≠ k; omega), cell_far (by show g ≠ k; omega)]
set_option maxRecDepth 100000 in
set_option maxHeartbeats 6400000 in
theorem leader_any (D : Cls) (n : Nat) (t r : Tm) (hr : leadP D n t = some r) (B bm : Nat) (w : World) (sv : Value) (hw : Wd w) (hB : B ≤ w.heap.size) (hC : Cl w bm B D) (h : SlIn (· < B) w t.args sv) (ht : Ok t) :
    Calls Tryz.prog 83 #[.map (some bm), .agg #[.string t.nm, sv]] w (TmR r B w) := by
  obtain ⟨p, c, rfl⟩ := h.form
  obtain ⟨W2, hW2⟩ : ∃ W2, W2 = (w.alloc (.cells #[.string t.nm, .slice p t.args.length c] 27)).alloc (.cells #[.string ⟨#[]⟩, .slice none 0 0] 27) := ⟨_, rfl⟩
  have G2 : Hid (Gr w W2) := Lib.hid (by rw [hW2]; exact (Gr.alloc _ _).more _)
  have hs2 : w.heap.size + 2 ≤ W2.heap.size := by rw [hW2]; simp
  have H2 : Hid (Has W2 w.heap.size #[.string t.nm, .slice p t.args.length c]) := Lib.hid (by rw [hW2]; exact (Has.new w _ _).alloc _)
  have E2 : Hid (Has W2 (w.heap.size + 1) #[.string ⟨#[]⟩, .slice none 0 0]) := Lib.hid (by rw [hW2]; exact Has.new1 w _ _ _)
  have S2 := Lib.hid (h.gr G2.out hB)
  have CT := Lib.hid (fun (u : Tm) w' sv (k : Below w.heap.size w w') (h : SlIn (· < B) w' u.args sv) (o : Ok u) => text_any u B w' sv (hw.below k hw.1) (Nat.le_trans hB k.size) h (by have := o.2.1; omega))
  have LK := Lib.hid (fun (u : Tm) w' (k : Below w.heap.size w w') (o : Ok u) => (hC.keep k hB).look Tryz.underlying72 u (by have := o.2.1; unfold maxLen; omega))
  have HT := Lib.hid ht
  have HB := Lib.hid hB
  have HR0 := Lib.hid hr
  clear hC h ht hw hB hr
  unfold TmR
  go_enter Tryz.func83, Tryz.ntmps83
  go_wp2_with fail
  rw [← hW2]
  clear hW2
  go_loopg [] n (fun k wr => ∃ (u : Tm) (q : Option Addr) (d : Nat), leadP D k u = some r ∧ Hid (Has wr w.heap.size #[.string u.nm, .slice q u.args.length d]) ∧ Hid (SlIn (· < B) wr u.args (.slice q u.args.length d)) ∧ Hid (Ok u) ∧ Hid (Has wr (w.heap.size + 1) #[.string ⟨#[]⟩, .slice none 0 0]) ∧ Hid (Below w.heap.size w wr) ∧ w.heap.size + 2 ≤ wr.heap.size)
  case atStart => exact ⟨t, p, c, HR0.out, H2, S2, HT, E2, Lib.hid G2.out.1, hs2⟩
  case round =>
    obtain ⟨u, q, d, hl, HU, SU, OU, EU, DU, hsz⟩ := hrel
    cases gk with
    | zero => simp [leadP] at hl
    | succ k =>
      unfold leadP at hl
      obtain ⟨y1, y2, _⟩ := HU.out.two
      have CT1 := Lib.hid (CT.out u _ _ DU.out SU.out OU.out)
      go_wp2_with fail
      refine CT1.out.mono ?_
      rintro e w3 ⟨rfl, k3⟩
      have D3 := Lib.hid (next0 DU.out k3)
      have H3 := Lib.hid (HU.out.step0 k3)
      have E3 := Lib.hid (EU.out.step0 k3)
      have S3 := Lib.hid (SU.out.deep k3 (Nat.le_trans HB.out DU.out.size))
      have hs3 : w.heap.size + 2 ≤ w3.heap.size := Nat.le_trans hsz k3.size
      obtain ⟨v, hrun, hv0, hv1⟩ := LK.out u w3 D3.out OU.out
      clear y1 y2 k3 CT1 HU EU SU DU
      cases hk : lookK D (textT u) with
      | none =>
        rw [hk] at hl hrun
        obtain rfl : u = r := by simpa using hl
        obtain rfl := hv0 hk
        simp only [Option.isSome_none] at hrun
        clear hv0 hv1 hk hl LK CT
        obtain ⟨W4, hW4⟩ : ∃ W4, W4 = w3.alloc (.cells #[.string ⟨#[]⟩, .slice none 0 0] 27) := ⟨_, rfl⟩
        have H4 : Hid (Has W4 w.heap.size #[.string u.nm, .slice q u.args.length d]) := Lib.hid (by rw [hW4]; exact H3.out.alloc _)
        have E4 : Hid (Has W4 (w.heap.size + 1) #[.string ⟨#[]⟩, .slice none 0 0]) := Lib.hid (by rw [hW4]; exact E3.out.alloc _)
        have D4 : Hid (Below w.heap.size w W4) := Lib.hid (by rw [hW4]; exact next0 D3.out (below_alloc _ _))
        have S4 : Hid (SlIn (· < B) W4 u.args (.slice q u.args.length d)) := Lib.hid (by rw [hW4]; exact S3.out.deep (below_alloc _ _) (Nat.le_trans HB.out D3.out.size))
        obtain ⟨y1, y2, _⟩ := H4.out.two
        obtain ⟨x1, x2, x3, x4, x5⟩ := E4.out.two
        have r := put_agg E4.out (.string u.nm) (.slice q u.args.length d)
        have r1 := r.cell 0
        have r2 := r.cell 1
        simp only [List.getElem?_toArray, List.getElem?_cons_zero, List.getElem?_cons_succ] at r1 r2
        have D5 := Lib.hid ((D4.out.setCell (p := ⟨w.heap.size + 1, 0, none⟩) (by simp) (.string u.nm)).setCell (p := ⟨w.heap.size + 1, 1, none⟩) (by simp) (.slice q u.args.length d))
        have S5 := Lib.hid (slin_far S4.out (show B ≤ w.heap.size + 1 by have := HB.out; omega) (.string u.nm) (.slice q u.args.length d))
        clear r H3 E3 D3 S3 H4 E4 D4 S4
        go_upto_region 2 with fail
        rw [← hW4]
        clear hW4
        go_wp2_with fail
        refine bodyPost_ret (v := .agg #[.string u.nm, .slice q u.args.length d]) (by simp [results, Tryz.results83, go_sem, r1, r2]) rfl ?_
        exact ⟨q, d, rfl, S5.out, OU.out, D5.out⟩
      | some u' =>
        rw [hk] at hl hrun
        obtain ⟨uv, rfl, hsu, hou⟩ := hv1 u' hk
        obtain ⟨q', d', rfl⟩ := hsu.form
        simp only [Option.isSome_some] at hrun
        have SU' := Lib.hid hsu
        have OU' := Lib.hid hou
        clear hv0 hv1 hk hsu hou
        obtain ⟨W4, hW4⟩ : ∃ W4, W4 = w3.alloc (.cells #[.string u'.nm, .slice q' u'.args.length d'] 27) := ⟨_, rfl⟩
        have N4 : Hid (Has W4 w3.heap.size #[.string u'.nm, .slice q' u'.args.length d']) := Lib.hid (by rw [hW4]; exact Has.new _ _ _)
        have H4 : Hid (Has W4 w.heap.size #[.string u.nm, .slice q u.args.length d]) := Lib.hid (by rw [hW4]; exact H3.out.alloc _)
        have E4 : Hid (Has W4 (w.heap.size + 1) #[.string ⟨#[]⟩, .slice none 0 0]) := Lib.hid (by rw [hW4]; exact E3.out.alloc _)
        have D4 : Hid (Below w.heap.size w W4) := Lib.hid (by rw [hW4]; exact next0 D3.out (below_alloc _ _))
        have hs4 : w3.heap.size + 1 = W4.heap.size := by rw [hW4]; simp
        have S4 : Hid (SlIn (· < B) W4 u'.args (.slice q' u'.args.length d')) := Lib.hid (by rw [hW4]; exact SU'.out.deep (below_alloc _ _) (Nat.le_trans HB.out D3.out.size))
        obtain ⟨y1, y2, _⟩ := N4.out.two
        obtain ⟨x1, x2, x3, x4, x5⟩ := H4.out.two
        have H5 := Lib.hid (put_agg H4.out (.string u'.nm) (.slice q' u'.args.length d'))
        have E5 := Lib.hid (far_agg (k := w.heap.size) (by omega) E4.out (.string u'.nm) (.slice q' u'.args.length d'))
        have D5 := Lib.hid ((D4.out.setCell (p := ⟨w.heap.size, 0, none⟩) (by simp) (.string u'.nm)).setCell (p := ⟨w.heap.size, 1, none⟩) (by simp) (.slice q' u'.args.length d'))
        have S5 := Lib.hid (slin_far S4.out (show B ≤ w.heap.size by exact HB.out) (.string u'.nm) (.slice q' u'.args.length d'))
        clear H3 E3 D3 S3 H4 E4 D4 S4 N4 SU'
        go_upto_region 2 with fail
        rw [← hW4]
        clear hW4
        go_wp2_with fail
        go_roundg k
        case measure => omega
        case rel => exact ⟨u', q', d', hl, H5, S5, OU', E5, D5, by simp [World.setCell]; omega⟩
end UnmB
end Go.Proofs.YtihbnonbhelbmaaGreatDoor
/- join of the code's classes. Conditions: texts of at most a million bytes, at most a million entries; the variable nameEnds holds its bytes. -/
namespace Go.Proofs.YtihbnonbhelbmaaGreatDoor
open Go Go.RowKit Go.Maps Go.WideMaps
namespace UnmC
open LexM TermM TermI Kit TermN TermU UniK UniM UniG UniL UniD TermT UnmA UnmB
theorem slin_c {bm B : Nat} {w w' : World} {l : List Tm} {v : Value} (h : SlIn (· < B) w l v) (g : Ch bm w w') (hB : B ≤ bm) (hs : B ≤ w.heap.size) : SlIn (· < B) w' l v :=
  h.frame fun b o hb => g.cell (by omega) (by omega)
theorem wd_c {bm : Nat} {w w' : World} (h : Wd w) (g : Ch bm w w') (hg : 0 < bm) : Wd w' :=
  ⟨Nat.lt_of_lt_of_le h.1 g.size, (g.cell h.1 (by omega)).trans h.2.1, (g.cell h.1 (by omega)).trans h.2.2.1, (g.cell h.1 (by omega)).trans h.2.2.2⟩
set_option maxRecDepth 100000 in
theorem cl_put {w : World} {bm B : Nat} {D : Cls} (h : Cl w bm B D) (hB : B ≤ bm) (hl : D.length < 1000000) {x y : Tm} {xv : Value} (hx : SlIn (· < B) w x.args xv) (ox : Ok x) (oy : Ok y) :
    ∃ w', (Instr.mapUpdate 72 (.map (some bm)) (.string ⟨(textT y).toArray⟩) (.agg #[.string x.nm, xv])).run Tryz.prog w = .ok () w' ∧ Cl w' bm B ((textT y, x) :: D) ∧ Ch bm w w' := by
  have hbm := h.lt
  obtain ⟨L, rfl, h2, h3⟩ := h
  obtain ⟨w', e1, e2, e3⟩ := h2.update TermE.law Tryz.underlying72 (by unfold maxLen; omega) (keyOf_string_mk Tryz.underlying9 (s := ⟨(textT y).toArray⟩) (by have := oy.2.1; unfold maxLen; exact (show (textT y).length ≤ _ by omega))) (show heldE (.agg #[.string x.nm, xv]) = some (.held _, []) from rfl)
  refine ⟨w', e1, ⟨(textT y, x, xv) :: L, rfl, ?_, fun z hz => ?_⟩, e3⟩
  · rw [List.map_cons, List.length_cons]; exact e2
  · rcases List.mem_cons.1 hz with rfl | hz
    · exact ⟨slin_c hx e3 hB (by omega), ox⟩
    · exact ⟨slin_c (h3 z hz).1 e3 hB (by omega), (h3 z hz).2⟩
theorem cl_ch {bm : Nat} {w w' : World} (h : Below w.heap.size w w') : Ch bm w w' := Ch.of h
/-- What join leaves. -/
def JnR (r : Bool) (D' : Cls) (bm B : Nat) (w : World) (e : Ending) (w' : World) : Prop := e = .returned (.bool r) ∧ Cl w' bm B D' ∧ Ch bm w w'
def JnT (n : Nat) : Prop := ∀ (D : Cls) (a b : Tm) (D' : Cls) (r : Bool), joinP n D a b = some (D', r) → D'.length ≤ 1000000 → ∀ (B bm : Nat) (w : World) (av bv : Value), Wd w → 0 < B → B ≤ bm → Cl w bm B D → SlIn (· < B) w a.args av → SlIn (· < B) w b.args bv → Ok a → Ok b →
  Calls Tryz.prog 53 #[.map (some bm), .agg #[.string a.nm, av], .agg #[.string b.nm, bv]] w (JnR r D' bm B w)
theorem joinA_drop {f : Cls → Tm → Tm → Option (Cls × Bool)} {D : Cls} {xs ys : List Tm} {k : Nat} {x y : Tm} (hx : xs[k]? = some x) (hy : ys[k]? = some y) :
    joinA f D (xs.drop k) (ys.drop k) = match f D x y with
      | none => none
      | some (D', false) => some (D', false)
      | some (D', true) => joinA f D' (xs.drop (k + 1)) (ys.drop (k + 1)) := by
  rw [TermQ.drop_get hx, TermQ.drop_get hy]
  rfl
set_option maxRecDepth 100000 in
set_option maxHeartbeats 6400000 in
theorem join_any (n : Nat) : JnT n := by
  induction n with
  | zero => intro D a b D' r h; cases h
  | succ n IH =>
    intro D a b D' r hj hlen B bm w av bv hw hg hBm hC ha hb oa ob
    have hbm := hC.lt
    have hB : B ≤ w.heap.size := by omega
    obtain ⟨pa, ca, rfl⟩ := ha.form
    obtain ⟨pb, cb, rfl⟩ := hb.form
    obtain ⟨x, hx⟩ : ∃ x, leadP D n a = some x := by
      unfold joinP at hj
      cases h : leadP D n a with
      | none => rw [h] at hj; cases hj
      | some x => exact ⟨x, rfl⟩
    obtain ⟨y, hy⟩ : ∃ y, leadP D n b = some y := by
      unfold joinP at hj
      cases h : leadP D n b with
      | none => rw [hx, h] at hj; cases hj
      | some x => exact ⟨x, rfl⟩
    have HJ : Hid ((if cmpT x y = 0 then some (D, true) else if ledB y x = true then joinB (joinP n) D y x else joinB (joinP n) D x y) = some (D', r)) := Lib.hid (by
      unfold joinP at hj; rw [hx, hy] at hj; exact hj)
    obtain ⟨W2, hW2⟩ : ∃ W2, W2 = (w.alloc (.cells #[.string a.nm, .slice pa a.args.length ca] 27)).alloc (.cells #[.string b.nm, .slice pb b.args.length cb] 27) := ⟨_, rfl⟩
    have G2 : Hid (Gr w W2) := Lib.hid (by rw [hW2]; exact (Gr.alloc _ _).more _)
    have B2 : Hid (Below w.heap.size w W2) := Lib.hid G2.out.1
    have hs2 : w.heap.size + 2 ≤ W2.heap.size := by rw [hW2]; simp
    have H2 : Hid (Has W2 w.heap.size #[.string a.nm, .slice pa a.args.length ca]) := Lib.hid (by rw [hW2]; exact (Has.new w _ _).alloc _)
    have T2 : Hid (Has W2 (w.heap.size + 1) #[.string b.nm, .slice pb b.args.length cb]) := Lib.hid (by rw [hW2]; exact Has.new1 w _ _ _)
    have LA := Lib.hid (fun w' (k : Below w.heap.size w w') => leader_any D n a x hx B bm w' _ (hw.below k hw.1) (Nat.le_trans hB k.size) (hC.keep k hB) (ha.deep k hB) oa)
    have LB := Lib.hid (fun w' (k : Below w.heap.size w w') => leader_any D n b y hy B bm w' _ (hw.below k hw.1) (Nat.le_trans hB k.size) (hC.keep k hB) (hb.deep k hB) ob)
    have CK := Lib.hid (fun w' (k : Below w.heap.size w w') => And.intro (hC.keep k hB) (hw.below k hw.1))
    have HB := Lib.hid hB
    have HBM := Lib.hid hBm
    have HWD := Lib.hid (fun w' (g : Ch bm w w') => wd_c hw g (by omega))
    have HG := Lib.hid hg
    have HLN := Lib.hid hlen
    have hbm2 := hbm
    have HIH := Lib.hid IH
    clear IH hC ha hb hw hj hx hy hB hBm hg oa ob
    unfold TmR at LA LB
    unfold JnR
    generalize a.nm = an at *
    generalize a.args.length = al at *
    generalize b.nm = bn at *
    generalize b.args.length = bl at *
    obtain ⟨y1, y2, y3, y4, y5⟩ := H2.out.two
    obtain ⟨z1, z2, z3, z4, z5⟩ := T2.out.two
    go_enter Tryz.func53, Tryz.ntmps53
    go_upto_region 1 with fail
    rw [← hW2]
    clear hW2
    go_cut [] (fun wx => ∃ (p3 : Option Addr) (c3 : Nat) (p4 : Option Addr) (c4 : Nat), Hid (Has wx w.heap.size #[.string x.nm, .slice p3 x.args.length c3]) ∧ Hid (Has wx (w.heap.size + 1) #[.string y.nm, .slice p4 y.args.length c4]) ∧ Hid (SlIn (· < B) wx x.args (.slice p3 x.args.length c3)) ∧ Hid (SlIn (· < B) wx y.args (.slice p4 y.args.length c4)) ∧ Hid (Ok x ∧ Ok y) ∧ Hid (Below w.heap.size w wx) ∧ w.heap.size + 2 ≤ wx.heap.size)
    case first =>
      clear HJ CK HIH
      go_region_law (first
        | (go_simp; go_at_call 83; (with_reducible refine (LA.out _ (by first | exact B2.out | exact B2.out.drew | exact below_drewN B2.out _)).mono ?_); rintro e w3 ⟨p3, c3, rfl, s3, o3, b3⟩; have B3 : Hid (Below w.heap.size w w3) := Lib.hid (by first | exact next0 B2.out b3 | exact next0 B2.out.drew b3 | exact next0 (below_drewN B2.out _) b3); have K3 : Hid (Below W2.heap.size W2 w3) := Lib.hid (by first | exact b3 | exact next0 (Below.refl _ _).drew b3 | exact next0 (below_drewN (Below.refl _ _) _) b3); have H3 := Lib.hid (H2.out.step0 K3.out); have T3 := Lib.hid (T2.out.step0 K3.out); have S3 := Lib.hid s3; have O3 := Lib.hid o3; clear s3 o3 b3 y1 y2 y3 y4 y5 z1 z2 z3 z4 z5; obtain ⟨z1, z2, z3, z4, z5⟩ := T3.out.two)
        | (go_simp; go_at_call 83; (with_reducible refine (LB.out _ (by first | exact B3.out | exact B3.out.drew | exact below_drewN B3.out _)).mono ?_); rintro e w4 ⟨p4, c4, rfl, s4, o4, b4⟩; have B4 : Hid (Below w.heap.size w w4) := Lib.hid (by first | exact next0 B3.out b4 | exact next0 B3.out.drew b4 | exact next0 (below_drewN B3.out _) b4); have K4 : Hid (Below w3.heap.size w3 w4) := Lib.hid (by first | exact b4 | exact next0 (Below.refl _ _).drew b4 | exact next0 (below_drewN (Below.refl _ _) _) b4); have S4 := Lib.hid s4; have O4 := Lib.hid o4; have S3' := Lib.hid (S3.out.deep K4.out (Nat.le_trans HB.out B3.out.size)); have H4 := Lib.hid (H3.out.step0 K4.out); have T4 := Lib.hid (T3.out.step0 K4.out); clear s4 o4 b4 z1 z2 z3 z4 z5; obtain ⟨y1, y2, y3, y4, y5⟩ := H4.out.two; obtain ⟨z1, z2, z3, z4, z5⟩ := T4.out.two; have a1 := H4.out.put0 (.string x.nm) (.slice p3 x.args.length c3); have a2 := H4.out.put1 (.string x.nm) (.slice p3 x.args.length c3)))
      all_goals
        go_wp2_with fail
        go_meet
        exact ⟨p3, c3, p4, c4, Lib.hid (far_agg (k := w.heap.size + 1) (by omega) (put_agg H4.out _ _) _ _), Lib.hid (put_agg (far_agg (k := w.heap.size) (by omega) T4.out _ _) _ _), Lib.hid (slin_far (slin_far S3'.out HB.out _ _) (show B ≤ w.heap.size + 1 by have := HB.out; omega) _ _), Lib.hid (slin_far (slin_far S4.out HB.out _ _) (show B ≤ w.heap.size + 1 by have := HB.out; omega) _ _), Lib.hid ⟨O3.out, O4.out⟩, Lib.hid ((((B4.out.setCell (p := ⟨w.heap.size, 0, none⟩) (by simp) _).setCell (p := ⟨w.heap.size, 1, none⟩) (by simp) _).setCell (p := ⟨w.heap.size + 1, 0, none⟩) (by simp) _).setCell (p := ⟨w.heap.size + 1, 1, none⟩) (by simp) _), by have := K3.out.size; have := K4.out.size; simp [World.setCell]; omega⟩
    case rest =>
      obtain ⟨p3, c3, p4, c4, HA, HY, S3, S4, OO, K1, hs1⟩ := hcut
      clear LA LB G2 B2 H2 T2 y1 y2 y3 y4 y5 z1 z2 z3 z4 z5 hs2
      obtain ⟨y1, y2, _⟩ := HA.out.two
      obtain ⟨z1, z2, _⟩ := HY.out.two
      have CC := Lib.hid (TermR.cmp_any x B wc (.slice p3 x.args.length c3) y (.slice p4 y.args.length c4) (Nat.le_trans HB.out K1.out.size) OO.out.1.1 OO.out.2.1 S3.out S4.out)
      have CL := Lib.hid (fun w' => leads_any y x p4 p3 c4 c3 w' OO.out.2.1 OO.out.1.1)
      obtain ⟨z, hz⟩ : ∃ z, (cmpT x y == 0) = z := ⟨_, rfl⟩
      have HJ2 : Hid ((if z = true then some (D, true) else if ledB y x = true then joinB (joinP n) D y x else joinB (joinP n) D x y) = some (D', r)) := Lib.hid (by
        rw [← hz]
        have := HJ.out
        by_cases h : cmpT x y = 0
        · rw [if_pos h] at this; simpa [h] using this
        · rw [if_neg h] at this; simpa [h] using this)
      clear HJ
      obtain ⟨L, hL⟩ : ∃ L, ledB y x = L := ⟨_, rfl⟩
      rw [hL] at HJ2 CL
      clear hL
      generalize cmpT x y = cc at *
      go_wp2_with fail
      refine CC.out.mono ?_
      rintro e w5 ⟨rfl, g5⟩
      have K5 := Lib.hid (next0 K1.out g5.1)
      have HA5 := Lib.hid (HA.out.step0 g5.1)
      have HY5 := Lib.hid (HY.out.step0 g5.1)
      have S35 := Lib.hid (S3.out.deep g5.1 (Nat.le_trans HB.out K1.out.size))
      have S45 := Lib.hid (S4.out.deep g5.1 (Nat.le_trans HB.out K1.out.size))
      have hs5 : w.heap.size + 2 ≤ w5.heap.size := Nat.le_trans hs1 g5.1.size
      clear CC HA HY S3 S4 K1 hs1 g5 y1 y2 z1 z2
      obtain ⟨y1, y2, _⟩ := HA5.out.two
      obtain ⟨z1, z2, _⟩ := HY5.out.two
      cases z
      case true =>
        have e9 := HJ2.out
        rw [if_pos rfl] at e9
        cases e9
        go_wp2_with fail
        go_ret
        exact ⟨rfl, (CK.out _ K5.out).1, Ch.of K5.out⟩
      case false =>
        have HJ3 : Hid ((if L = true then joinB (joinP n) D y x else joinB (joinP n) D x y) = some (D', r)) := Lib.hid (by have e9 := HJ2.out; rwa [if_neg (by simp)] at e9)
        clear HJ2
        go_wp2_with fail
        refine (CL.out _).mono ?_
        rintro e w6 ⟨rfl, g6⟩
        have K6 := Lib.hid (next0 K5.out g6.1)
        have HA6 := Lib.hid (HA5.out.step0 g6.1)
        have HY6 := Lib.hid (HY5.out.step0 g6.1)
        have S36 := Lib.hid (S35.out.deep g6.1 (Nat.le_trans HB.out K5.out.size))
        have S46 := Lib.hid (S45.out.deep g6.1 (Nat.le_trans HB.out K5.out.size))
        have hs6 : w.heap.size + 2 ≤ w6.heap.size := Nat.le_trans hs5 g6.1.size
        clear CL HA5 HY5 S35 S45 K5 hs5 g6 y1 y2 z1 z2
        go_upto_if 20 with fail
        go_cut [] (fun wx => ∃ (X Y : Tm) (pX : Option Addr) (cX : Nat) (pY : Option Addr) (cY : Nat), Hid (joinB (joinP n) D X Y = some (D', r)) ∧ Hid (Has wx w.heap.size #[.string X.nm, .slice pX X.args.length cX]) ∧ Hid (Has wx (w.heap.size + 1) #[.string Y.nm, .slice pY Y.args.length cY]) ∧ Hid (SlIn (· < B) wx X.args (.slice pX X.args.length cX)) ∧ Hid (SlIn (· < B) wx Y.args (.slice pY Y.args.length cY)) ∧ Hid (Ok X ∧ Ok Y) ∧ Hid (Below w.heap.size w wx) ∧ w.heap.size + 2 ≤ wx.heap.size)
        case first =>
          cases L
          · have e9 := HJ3.out
            rw [if_neg (by simp)] at e9
            go_wp2_with fail
            go_meet
            exact ⟨x, y, p3, c3, p4, c4, Lib.hid e9, HA6, HY6, S36, S46, OO, K6, hs6⟩
          · have e9 := HJ3.out
            rw [if_pos rfl] at e9
            have E9 := Lib.hid e9
            clear e9 HJ3
            obtain ⟨y1, y2, y3, y4, y5⟩ := HA6.out.two
            obtain ⟨z1, z2, z3, z4, z5⟩ := HY6.out.two
            have FA := Lib.hid (far_agg (k := w.heap.size + 1) (by omega) (put_agg HA6.out (.string y.nm) (.slice p4 y.args.length c4)) (.string x.nm) (.slice p3 x.args.length c3))
            have FB := Lib.hid (put_agg (far_agg (k := w.heap.size) (by omega) HY6.out (.string y.nm) (.slice p4 y.args.length c4)) (.string x.nm) (.slice p3 x.args.length c3))
            have KW := Lib.hid ((((K6.out.setCell (p := ⟨w.heap.size, 0, none⟩) (by simp) (.string y.nm)).setCell (p := ⟨w.heap.size, 1, none⟩) (by simp) (.slice p4 y.args.length c4)).setCell (p := ⟨w.heap.size + 1, 0, none⟩) (by simp) (.string x.nm)).setCell (p := ⟨w.heap.size + 1, 1, none⟩) (by simp) (.slice p3 x.args.length c3))
            have SA := Lib.hid (slin_far (slin_far S36.out HB.out (.string y.nm) (.slice p4 y.args.length c4)) (show B ≤ w.heap.size + 1 by have := HB.out; omega) (.string x.nm) (.slice p3 x.args.length c3))
            have SB := Lib.hid (slin_far (slin_far S46.out HB.out (.string y.nm) (.slice p4 y.args.length c4)) (show B ≤ w.heap.size + 1 by have := HB.out; omega) (.string x.nm) (.slice p3 x.args.length c3))
            clear HA6 HY6 S36 S46 K6
            go_wp2_with fail
            go_meet
            exact ⟨y, x, p4, c4, p3, c3, E9, FA, FB, SB, SA, Lib.hid ⟨OO.out.2, OO.out.1⟩, KW, by simp [World.setCell]; omega⟩
        case rest =>
          obtain ⟨X, Y, pX, cX, pY, cY, HJ4, HX, HY, SX, SY, OO4, K4, hs4⟩ := hcut
          have hDl : D.length + 1 ≤ D'.length := joinB_len (joinP_len n) HJ4.out
          clear HJ3 HA6 HY6 S36 S46 K6 hs6 OO
          obtain ⟨y1, y2, _⟩ := HX.out.two
          obtain ⟨z1, z2, _⟩ := HY.out.two
          have CT := Lib.hid (fun w' (k : Below wc.heap.size wc w') => text_any Y B w' _ ((CK.out w' (next0 K4.out k)).2) (Nat.le_trans HB.out (next0 K4.out k).size) (SY.out.deep k (Nat.le_trans HB.out K4.out.size)) (by have := OO4.out.2.2.1; omega))
          go_upto_region 6 with fail
          go_cut [] (fun wx => Hid (Cl wx bm B ((textT Y, X) :: D)) ∧ Hid (Ch bm wc wx))
          case first =>
            go_region_law (first
              | (go_simp; go_at_call 85; (with_reducible refine (CT.out _ (by first | exact Below.refl _ _ | exact (Below.refl _ _).drew | exact below_drewN (Below.refl _ _) _)).mono ?_); rintro e w7 ⟨rfl, b7⟩; have B7 : Hid (Below wc.heap.size wc w7) := Lib.hid (by first | exact b7 | exact next0 (Below.refl _ _).drew b7 | exact next0 (below_drewN (Below.refl _ _) _) b7); clear b7 y1 y2 z1 z2; obtain ⟨y1, y2, _⟩ := (HX.out.step0 B7.out).two; obtain ⟨w8, hrun, hC8, hh8⟩ := cl_put (CK.out w7 (next0 K4.out B7.out)).1 HBM.out (by have := HLN.out; omega) (SX.out.deep B7.out (Nat.le_trans HB.out K4.out.size)) OO4.out.1 OO4.out.2; have C8 := Lib.hid hC8; have K8 := Lib.hid hh8; clear hC8 hh8))
            all_goals
              go_wp2_with fail
              go_meet
              exact ⟨C8, Lib.hid ((Ch.of B7.out).trans K8.out)⟩
          case rest =>
            obtain ⟨C5, H5⟩ := hcut
            obtain ⟨wd, hwd⟩ : ∃ wd, wd = wc := ⟨_, rfl⟩
            have HX5 := Lib.hid (H5.out.has HX.out (by omega))
            have HY5 := Lib.hid (H5.out.has HY.out (by omega))
            have F5 := Lib.hid ((Ch.of (r := bm) K4.out).trans H5.out)
            have SX5 := Lib.hid (slin_c SX.out H5.out HBM.out (Nat.le_trans HB.out K4.out.size))
            have SY5 := Lib.hid (slin_c SY.out H5.out HBM.out (Nat.le_trans HB.out K4.out.size))
            have hs5 : w.heap.size + 2 ≤ wc.heap.size := Nat.le_trans hs4 H5.out.size
            have DL5 : Hid (((textT Y, X) :: D : Cls).length ≤ D'.length) := Lib.hid (by simpa using hDl)
            clear y1 y2 z1 z2 CT HX HY SX SY K4 hs4 H5 CK hDl hwd wd
            unfold joinB at HJ4
            generalize ((textT Y, X) :: D : Cls) = D1 at *
            have KV := Lib.hid (fun w' => cvar_t Y pY cY w' OO4.out.2.1)
            have KH := Lib.hid (fun w' => head_any X.nm Y.nm pX pY X.args.length cX Y.args.length cY w')
            have EH : Hid (headE X Y = (eqB X.nm Y.nm && decide (X.args.length = Y.args.length))) := Lib.hid rfl
            rw [← EH.out] at KH
            obtain ⟨v, hv⟩ : ∃ v, isV Y = v := ⟨_, rfl⟩
            obtain ⟨h, hh⟩ : ∃ h, headE X Y = h := ⟨_, rfl⟩
            rw [hv] at HJ4 KV
            rw [hh] at HJ4 KH EH
            clear hv hh
            obtain ⟨y1, y2, _⟩ := HX5.out.two
            obtain ⟨z1, z2, _⟩ := HY5.out.two
            go_wp2_with fail
            refine (KV.out _).mono ?_
            rintro e w6 ⟨rfl, g6⟩
            have C6 := Lib.hid (C5.out.keep g6.1 (Nat.le_trans HB.out F5.out.size))
            have F6 := Lib.hid (F5.out.below g6.1)
            have HX6 := Lib.hid (HX5.out.step0 g6.1)
            have HY6 := Lib.hid (HY5.out.step0 g6.1)
            have SX6 := Lib.hid (SX5.out.deep g6.1 (Nat.le_trans HB.out F5.out.size))
            have SY6 := Lib.hid (SY5.out.deep g6.1 (Nat.le_trans HB.out F5.out.size))
            have hs6 : w.heap.size + 2 ≤ w6.heap.size := Nat.le_trans hs5 g6.1.size
            clear C5 F5 HX5 HY5 SX5 SY5 hs5 g6 y1 y2 z1 z2 KV
            obtain ⟨y1, y2, _⟩ := HX6.out.two
            obtain ⟨z1, z2, _⟩ := HY6.out.two
            cases v
            case true =>
              have e9 := HJ4.out
              rw [if_pos rfl] at e9
              cases e9
              go_wp2_with fail
              go_ret
              exact ⟨rfl, C6.out, F6.out⟩
            case false =>
              have HJ5 : Hid ((if h = true then joinA (joinP n) D1 X.args Y.args else some (D1, false)) = some (D', r)) := Lib.hid (by have e9 := HJ4.out; rwa [if_neg (by simp)] at e9)
              clear HJ4
              go_wp2_with fail
              refine (KH.out _).mono ?_
              rintro e w7 ⟨rfl, g7⟩
              have C7 := Lib.hid (C6.out.keep g7.1 (Nat.le_trans HB.out F6.out.size))
              have F7 := Lib.hid (F6.out.below g7.1)
              have HX7 := Lib.hid (HX6.out.step0 g7.1)
              have HY7 := Lib.hid (HY6.out.step0 g7.1)
              have SX7 := Lib.hid (SX6.out.deep g7.1 (Nat.le_trans HB.out F6.out.size))
              have SY7 := Lib.hid (SY6.out.deep g7.1 (Nat.le_trans HB.out F6.out.size))
              have hs7 : w.heap.size + 2 ≤ w7.heap.size := Nat.le_trans hs6 g7.1.size
              clear C6 F6 HX6 HY6 SX6 SY6 hs6 g7 y1 y2 z1 z2 KH
              obtain ⟨y1, y2, _⟩ := HX7.out.two
              cases h
              case false =>
                have e9 := HJ5.out
                rw [if_neg (by simp)] at e9
                cases e9
                go_wp2_with fail
                go_ret
                exact ⟨rfl, C7.out, F7.out⟩
              case true =>
                have e9 := HJ5.out
                rw [if_pos rfl] at e9
                have HE : Hid (joinA (joinP n) D1 (X.args.drop 0) (Y.args.drop 0) = some (D', r)) := Lib.hid e9
                have hab : X.args.length = Y.args.length := by
                  have := EH.out.symm
                  rw [Bool.and_eq_true, decide_eq_true_eq] at this
                  exact this.2
                have hm63 : X.args.length ≤ 9223372036854775807 := by
                  obtain ⟨_, _, _, _, hc1, hc2, _⟩ := SX7.out.row
                  unfold maxLen at hc2
                  omega
                have JA : Hid (∀ (D9 : Cls) (xs ys : List Tm) (D8 : Cls) (r8 : Bool), joinA (joinP n) D9 xs ys = some (D8, r8) → D9.length ≤ D8.length) := Lib.hid (fun D9 xs ys D8 r8 h => joinA_len (joinP_len n) xs ys D9 D8 r8 h)
                have AX := Lib.hid (fun (x : Tm) (hx : x ∈ X.args) (hn : x.nm.size ≤ maxLen) => OO4.out.1.arg hx hn)
                have AY := Lib.hid (fun (x : Tm) (hx : x ∈ Y.args) (hn : x.nm.size ≤ maxLen) => OO4.out.2.arg hx hn)
                rw [← hab] at HY7 SY7
                have HAB := Lib.hid hab
                clear e9 HJ5 EH hab
                generalize hma : X.args.length = m at *
                have HMA := Lib.hid hma
                clear hma
                go_wp2_with fail
                clear y1 y2
                go_loopw [36] (fun i wr => ∃ (k : Nat) (Dk : Cls), k ≤ m ∧ i = .int .i64 k ∧ Hid (joinA (joinP n) Dk (X.args.drop k) (Y.args.drop k) = some (D', r)) ∧ Hid (Cl wr bm B Dk) ∧ Hid (Ch bm w7 wr)) (fun i _ => m - (intOf i).toNat)
                case atStart => exact ⟨0, D1, Nat.zero_le _, rfl, HE, C7, Lib.hid (Ch.refl _ _)⟩
                case round =>
                  obtain ⟨k, Dk, hk, rfl, hE, hC, hF⟩ := hrel
                  by_cases hlt : k < m
                  · have HXr := Lib.hid (hF.out.has HX7.out (by omega))
                    have HYr := Lib.hid (hF.out.has HY7.out (by omega))
                    have SXr := Lib.hid (slin_c SX7.out hF.out HBM.out (Nat.le_trans HB.out F7.out.size))
                    have SYr := Lib.hid (slin_c SY7.out hF.out HBM.out (Nat.le_trans HB.out F7.out.size))
                    obtain ⟨p', c', e1, _, _, _, hR⟩ := SXr.out.row
                    rw [HMA.out] at e1
                    injection e1 with e1 _ e2
                    subst e1 e2
                    obtain ⟨x9, b, o, q, d, hx9, rfl, hb, u1, u2, hxs, hxn⟩ := hR k (by rw [HMA.out]; exact hlt)
                    obtain ⟨p', c', e1, _, _, _, hR'⟩ := SYr.out.row
                    rw [← HAB.out] at e1
                    injection e1 with e1 _ e2
                    subst e1 e2
                    obtain ⟨y9, b2, o2, q2, d2, hy9, rfl, hb2, v1, v2, hys, hyn⟩ := hR' k (by rw [← HAB.out]; exact hlt)
                    obtain ⟨z1, z2, _⟩ := HXr.out.two
                    obtain ⟨z3, z4, _⟩ := HYr.out.two
                    have E9 := hE.out
                    rw [joinA_drop hx9 hy9] at E9
                    have O1 := AX.out x9 (List.mem_of_getElem? hx9) hxn
                    have O2 := AY.out y9 (List.mem_of_getElem? hy9) hyn
                    obtain ⟨D2, t, hj9, hl9, hn9⟩ : ∃ D2 t, joinP n Dk x9 y9 = some (D2, t) ∧ D2.length ≤ D'.length ∧ Hid ((t = false → D2 = D' ∧ r = false) ∧ (t = true → joinA (joinP n) D2 (X.args.drop (k + 1)) (Y.args.drop (k + 1)) = some (D', r))) := by
                      cases hj : joinP n Dk x9 y9 with
                      | none => rw [hj] at E9; cases E9
                      | some z =>
                        obtain ⟨D2, t⟩ := z
                        rw [hj] at E9
                        cases t with
                        | false => cases E9; exact ⟨_, _, rfl, Nat.le_refl _, Lib.hid ⟨fun _ => ⟨rfl, rfl⟩, fun h => (by cases h)⟩⟩
                        | true => exact ⟨_, _, rfl, JA.out _ _ _ _ _ E9, Lib.hid ⟨fun h => (by cases h), fun _ => E9⟩⟩
                    have CI := Lib.hid (fun w' (g : Below wr.heap.size wr w') => HIH.out Dk x9 y9 D2 t hj9 (Nat.le_trans hl9 HLN.out) B bm w' _ _ (HWD.out w' ((F7.out.trans hF.out).below g)) HG.out HBM.out (hC.out.keep g (Nat.le_trans HB.out (F7.out.trans hF.out).size)) (hxs.deep g (Nat.le_trans HB.out (F7.out.trans hF.out).size)) (hys.deep g (Nat.le_trans HB.out (F7.out.trans hF.out).size)) O1 O2)
                    clear hx9 hy9 hxs hys hxn hyn O1 O2 E9 hj9 hl9 hE hC hR hR' SXr SYr
                    unfold JnR at CI
                    generalize x9.nm = xn at *
                    generalize x9.args.length = xa at *
                    generalize y9.nm = yn at *
                    generalize y9.args.length = ya at *
                    go_upto_region 14 with fail
                    go_region_with (first
                      | (go_at_call 53; (with_reducible refine (CI.out _ (by first | exact Below.refl _ _ | exact (Below.refl _ _).drew | exact below_drewN (Below.refl _ _) _)).mono ?_); rintro e w8 ⟨rfl, h8, k8⟩; have C8 := Lib.hid h8; have K8 : Hid (Ch bm wr w8) := Lib.hid (by first | exact k8 | exact (Ch.of (Below.refl _ _).drew).trans k8 | exact (Ch.of (below_drewN (Below.refl _ _) _)).trans k8); clear h8 k8))
                    all_goals
                      cases t
                      · obtain ⟨rfl, rfl⟩ := hn9.out.1 rfl
                        go_wp2_with fail
                        go_ret
                        exact ⟨rfl, C8.out, (F7.out.trans hF.out).trans K8.out⟩
                      · have EN := Lib.hid (hn9.out.2 rfl)
                        clear hn9
                        go_wp2_with fail
                        go_roundw
                        case rel => exact ⟨k + 1, D2, by omega, by go_num, EN, C8, Lib.hid (hF.out.trans K8.out)⟩
                        case measure => simp [intOf]; omega
                  · obtain rfl : k = m := by omega
                    have e9 := hE.out
                    rw [← HMA.out, List.drop_length, HMA.out, HAB.out, List.drop_length] at e9
                    cases e9
                    go_wp2_with fail
                    go_ret
                    exact ⟨rfl, hC.out, F7.out.trans hF.out⟩
end UnmC
end Go.Proofs.YtihbnonbhelbmaaGreatDoor
/- The reference's Apply of substitutions. Conditions: the substitution binds variables alone; terms of at most a million parts. -/
namespace Go.Proofs.YtihbnonbhelbmaaGreatDoor
open Go Go.RowKit
namespace UniH
open LexM TermM TermI Kit TermN TermU UniK UniM UniA UniC UniD UniE UniG
theorem slin_ret {ok : Nat → Prop} {w4 : World} {g : Nat} {l : List Tm} {v : Value} (h : SlIn ok w4 l v) (hb : ∀ b, ok b → b ≠ g ∧ b < w4.heap.size) (x y : Value) (o : Obj) : SlIn ok (((w4.setCell ⟨g, 0, none⟩ x).setCell ⟨g, 1, none⟩ y).alloc o) l v :=
  h.frame fun b i hk => ((below_alloc _ _).cell (p := ⟨b, i, none⟩) (by simpa [World.setCell] using (hb b hk).2)).trans (by rw [cell_far (hb b hk).1, cell_far (hb b hk).1])
theorem below_ret {w w4 : World} {g : Nat} (h : Below w.heap.size w w4) (hg : w.heap.size ≤ g) (x y : Value) (o : Obj) : Below w.heap.size w (((w4.setCell ⟨g, 0, none⟩ x).setCell ⟨g, 1, none⟩ y).alloc o) :=
  next0 ((h.setCell (p := ⟨g, 0, none⟩) hg x).setCell (p := ⟨g, 1, none⟩) hg y) (below_alloc _ _)
/-- What the reference's Apply leaves: the term, in blocks below B or in new ones. -/
def RApR (B : Nat) (u : Tm) (w : World) (e : Ending) (w' : World) : Prop :=
  ∃ (q : Option Addr) (d : Nat), e = .returned (.agg #[.string u.nm, .slice q u.args.length d]) ∧ SlIn (fun b => b < B ∨ (w.heap.size ≤ b ∧ b < w'.heap.size)) w' u.args (.slice q u.args.length d) ∧ u.nm.size ≤ maxLen ∧ Below w.heap.size w w'
theorem look_var {s : List Bd} (hV : ∀ b ∈ s, varB b.1 = true) {n : ByteArray} (hn : varB n = false) : lookS s n = none := by
  unfold lookS
  rw [List.find?_eq_none.2 (fun y hy he => by
    rw [eqB_iff] at he
    rw [← he, hV y hy] at hn
    cases hn)]
  rfl
theorem app_same {s : List Bd} (hV : ∀ b ∈ s, varB b.1 = true) (n : ByteArray) (l : List Tm) (h : isV (.mk n l) = false) : appT s (.mk n l) = .mk n (l.map (appT s)) := by
  unfold appT
  cases l with
  | nil =>
    have : varB n = false := by simpa [isV, Tm.args, Tm.nm] using h
    simp [look_var hV this]
  | cons a l => simp [appL_map]
set_option maxRecDepth 100000 in
set_option maxHeartbeats 6400000 in
theorem rapply_var (s : List Bd) (n : ByteArray) (B : Nat) (w : World) (sv : Value) (p : Option Addr) (c : Nat) (hB : B ≤ w.heap.size) (hs : SIn (· < B) w s sv) (h : SlIn (· < B) w [] (.slice p 0 c)) (hn : n.size ≤ maxLen) (hv : isV (.mk n []) = true) :
    Calls Tryz.prog 21 #[sv, .agg #[.string n, .slice p 0 c]] w (RApR B ((lookS s n).getD (.mk n [])) w) := by
  have CV := Lib.hid (fun w' => rvar_t (.mk n []) p c w' hn)
  rw [hv] at CV
  dsimp only [Tm.nm, Tm.args, List.length_nil] at CV
  have CL := Lib.hid (fun w' (k : Below w.heap.size w w') => rlookup_any s n B w' sv (Nat.le_trans hB k.size) (hs.deep k hB))
  obtain ⟨W2, hW2⟩ : ∃ W2, W2 = (w.alloc (.cells #[.string n, .slice p 0 c] 27)).alloc (.cells #[.string ⟨#[]⟩, .slice none 0 0] 27) := ⟨_, rfl⟩
  have G2 : Gr w W2 := by rw [hW2]; exact (Gr.alloc _ _).more _
  have hz2w : w.heap.size + 2 ≤ W2.heap.size := by rw [hW2]; simp
  have H2 : Hid (Has W2 w.heap.size #[.string n, .slice p 0 c]) := Lib.hid (by rw [hW2]; exact (Has.new w _ _).alloc _)
  have E2 : Hid (Has W2 (w.heap.size + 1) #[.string ⟨#[]⟩, .slice none 0 0]) := Lib.hid (by rw [hW2]; exact Has.new1 w _ _ _)
  have HS := Lib.hid (fun (w' : World) (k : Below w.heap.size w w') => h.deep k hB)
  have GG := Lib.hid G2
  have HN := Lib.hid hn
  clear h hs hv G2 hn
  generalize lookS s n = o9 at *
  unfold RLkR at CL
  unfold RApR
  obtain ⟨y1, y2, y3, y4, y5⟩ := H2.out.two
  go_enter Tryz.func21, Tryz.ntmps21
  go_upto_region 1 with fail
  rw [← hW2]
  clear hW2
  go_wp2_with fail
  refine (CV.out _).mono ?_
  rintro e w3 ⟨rfl, g3⟩
  have D3 := Lib.hid (next0 GG.out.1 g3.1)
  have H3 := Lib.hid (H2.out.step0 g3.1)
  have E3 := Lib.hid (E2.out.step0 g3.1)
  have hz3 : w.heap.size + 2 ≤ w3.heap.size := Nat.le_trans hz2w g3.1.size
  clear y1 y2 y3 y4 y5 CV g3 H2 E2
  obtain ⟨y1, y2, y3, y4, y5⟩ := H3.out.two
  go_wp2_with fail
  refine (CL.out _ D3.out).mono ?_
  rintro e w4 ⟨u, q, d, f, rfl, hc, hS, hnu, hb⟩
  have D4 := Lib.hid (next0 D3.out hb)
  have H4 := Lib.hid (H3.out.step0 hb)
  have E4 := Lib.hid (E3.out.step0 hb)
  have hz4 : w.heap.size + 2 ≤ w4.heap.size := Nat.le_trans hz3 hb.size
  have S4 := Lib.hid hS
  have N4 := Lib.hid hnu
  have HC := Lib.hid hc
  clear y1 y2 y3 y4 y5 CL hb D3 H3 E3 hS hnu hc
  obtain ⟨z1, z2, z3, z4, z5⟩ := E4.out.two
  obtain ⟨y1, y2, y3, y4, y5⟩ := H4.out.two
  rcases HC.out with ⟨ho, rfl⟩ | ⟨ho, hu, rfl⟩
  · subst ho
    clear HC HS HN
    obtain ⟨r1, r2, _⟩ := (((E4.out.set 0 (.string u.nm)).set 1 (.slice q u.args.length d)).alloc (.cells #[.string u.nm, .slice q u.args.length d] 27)).two
    go_wp2_with fail
    refine bodyPost_ret (v := .agg #[.string u.nm, .slice q u.args.length d]) (by simp [results, Tryz.results21, go_sem, r1, r2]) rfl ?_
    exact ⟨q, d, rfl, (slin_ret S4.out (fun b hb => ⟨by omega, by omega⟩) _ _ _).weaken (fun b hb => Or.inl hb), N4.out, below_ret D4.out (by omega) _ _ _⟩
  · subst ho
    have S5 := Lib.hid (HS.out _ D4.out)
    clear HC S4 N4
    obtain ⟨r1, r2, _⟩ := (((E4.out.set 0 (.string n)).set 1 (.slice p 0 c)).alloc (.cells #[.string u.nm, .slice q u.args.length d] 27)).two
    subst hu
    go_wp2_with fail
    refine bodyPost_ret (v := .agg #[.string n, .slice p 0 c]) (by simp [results, Tryz.results21, go_sem, r1, r2]) rfl ?_
    exact ⟨p, c, rfl, (slin_ret S5.out (fun b hb => ⟨by omega, by omega⟩) _ _ _).weaken (fun b hb => Or.inl hb), HN.out, below_ret D4.out (by omega) _ _ _⟩
set_option maxRecDepth 100000 in
set_option maxHeartbeats 6400000 in
theorem rapply_any (s : List Bd) (hV : ∀ b ∈ s, varB b.1 = true) (t : Tm) : ∀ (B : Nat) (w : World) (sv tv : Value), B ≤ w.heap.size → SIn (· < B) w s sv → SlIn (· < B) w t.args tv → t.nm.size ≤ maxLen → sizeT t ≤ 1000000 →
    Calls Tryz.prog 21 #[sv, .agg #[.string t.nm, tv]] w (RApR B (appT s t) w) := by
  obtain ⟨i0, hi, hz0, hz1, hz2⟩ := info_parts Tryz.info28
  induction t using Tm.ind with
  | h n l ih =>
    intro B w sv tv hB hs h hnm hz
    dsimp only [Tm.args, Tm.nm] at h hnm ⊢
    by_cases hv : isV (.mk n l) = true
    · have hl : l = [] := by cases l with
        | nil => rfl
        | cons a l => simp [isV, Tm.args] at hv
      subst hl
      obtain ⟨p, c, rfl⟩ := h.form
      have := rapply_var s n B w sv p c hB hs h hnm hv
      simpa [appT] using this
    · have hv0 : isV (.mk n l) = false := by simpa using hv
      rw [app_same hV n l hv0]
      obtain ⟨p, c, rfl, hn, hc, hm, hR⟩ := h.row
      have hls := len_size l
      simp only [sizeT] at hz
      have CV := Lib.hid (fun w' => rvar_t (.mk n l) p c w' hnm)
      rw [hv0] at CV
      dsimp only [Tm.nm, Tm.args] at CV
      obtain ⟨W2, hW2⟩ : ∃ W2, W2 = (w.alloc (.cells #[.string n, .slice p l.length c] 27)).alloc (.cells #[.string ⟨#[]⟩, .slice none 0 0] 27) := ⟨_, rfl⟩
      have G2 : Gr w W2 := by rw [hW2]; exact (Gr.alloc _ _).more _
      have hz2w : w.heap.size + 2 ≤ W2.heap.size := by rw [hW2]; simp
      have H2 : Hid (Has W2 w.heap.size #[.string n, .slice p l.length c]) := Lib.hid (by rw [hW2]; exact (Has.new w _ _).alloc _)
      have E2 : Hid (Has W2 (w.heap.size + 1) #[.string ⟨#[]⟩, .slice none 0 0]) := Lib.hid (by rw [hW2]; exact Has.new1 w _ _ _)
      have IH : Hid (∀ t ∈ l, ∀ (w' : World) (v : Value), Below w.heap.size w w' → SlIn (· < B) w' t.args v → t.nm.size ≤ maxLen → Calls Tryz.prog 21 #[sv, .agg #[.string t.nm, v]] w' (RApR B (appT s t) w')) :=
        Lib.hid (fun t hk w' v hb h hn => ih t hk B w' sv v (Nat.le_trans hB hb.size) (hs.deep hb hB) h hn (by have := size_mem hk; omega))
      have TK : Hid (∀ k t, l[k]? = some t → (l.take (k + 1)).map (appT s) = (l.take k).map (appT s) ++ [appT s t]) := Lib.hid (fun k t h => by rw [take_get l k t h]; simp)
      have FT : Hid ((l.take l.length).map (appT s) = l.map (appT s)) := Lib.hid (by simp)
      have HB := Lib.hid hB
      have HR := Lib.hid hR
      have HNM := Lib.hid hnm
      have hlb : l.length ≤ 1000000 := by omega
      have ll : Hid ((l.map (appT s)).length = l.length) := Lib.hid (by simp)
      have GG := Lib.hid G2
      unfold RApR
      dsimp only [Tm.nm, Tm.args]
      rw [ll.out]
      generalize hm' : l.length = m at *
      have HM := Lib.hid hm'
      clear ih hR h hm' hn hls hz ll hs hv hv0 hnm G2
      obtain ⟨y1, y2, y3, y4, y5⟩ := H2.out.two
      go_enter Tryz.func21, Tryz.ntmps21
      go_upto_region 1 with fail
      rw [← hW2]
      clear hW2
      go_wp2_with fail
      refine (CV.out _).mono ?_
      rintro e w3 ⟨rfl, g3⟩
      have D3 := Lib.hid (next0 GG.out.1 g3.1)
      have H3 := Lib.hid (H2.out.step0 g3.1)
      have E3 := Lib.hid (E2.out.step0 g3.1)
      have hz3 : w.heap.size + 2 ≤ w3.heap.size := Nat.le_trans hz2w g3.1.size
      clear y1 y2 y3 y4 y5 CV g3 H2 E2
      obtain ⟨y1, y2, y3, y4, y5⟩ := H3.out.two
      go_wp2_with fail
      clear y1 y2 y3 y4 y5
      have hB3 : B ≤ w3.heap.size := by have := HB.out; omega
      have sz3 : w.heap.size ≤ w3.heap.size := by omega
      go_loopw [8] (fun i wr => ∃ (k : Nat) (L : List (Tm × Value)) (v : Value), k ≤ m ∧ i = .int .i64 k ∧ Hid (L.map (·.1) = (l.take k).map (appT s)) ∧ Hid (OwnB B (w3.heap.size + 1) wr L v) ∧ Hid (Has wr w3.heap.size #[.string n, v]) ∧ Hid (Has wr w.heap.size #[.string n, .slice p m c]) ∧ Hid (Has wr (w.heap.size + 1) #[.string ⟨#[]⟩, .slice none 0 0]) ∧ Hid (Below w.heap.size w wr)) (fun i _ => m - (intOf i).toNat)
      case atStart => exact ⟨0, [], _, Nat.zero_le _, rfl, Lib.hid rfl, Lib.hid (OwnB.nil _ _ _), Lib.hid (Has.new _ _ _), Lib.hid (H3.out.alloc _), Lib.hid (E3.out.alloc _), Lib.hid (D3.out.alloc sz3 _)⟩
      case round =>
        obtain ⟨k, L, v, hk, rfl, hL, hO, hC, hH, hE, hD⟩ := hrel
        by_cases hlt : k < m
        · obtain ⟨t, b, o, q, d, ht, rfl, hb, c1, c2, hs, hts⟩ := (Row.deep HR.out hD.out HB.out) k (by rw [HM.out]; exact hlt)
          obtain ⟨x1, x2, x3, x4, hbl⟩ := hC.out.two
          obtain ⟨y1, y2, y3, y4, y5⟩ := hH.out.two
          have hLl : L.length = k := by
            have := congrArg List.length hL.out
            rw [List.length_map, List.length_map, List.length_take, HM.out] at this
            omega
          have hLl2 : L.length ≤ 1000000 := by omega
          have TT := Lib.hid (TK.out k t ht)
          have IT := Lib.hid (fun w' (g : Below wr.heap.size wr w') => IH.out t (List.mem_of_getElem? ht) w' _ (next0 hD.out g) (hs.deep g (Nat.le_trans HB.out hD.out.size)) hts)
          have hv := Lib.hid hO.out.1.lt
          have A1 : L.length + 1 ≤ maxLen := by unfold maxLen; omega
          have A2 : (L.length + 1) * 40 ≤ 140737488355328 := by omega
          have hDs := hD.out.size
          have hbs : w3.heap.size + 1 ≤ wr.heap.size := hbl
          clear hs hts ht hLl
          generalize t.nm = tn at *
          generalize t.args.length = ta at *
          generalize appT s t = u at *
          unfold RApR at IT
          go_wp2_with fail
          go_region_law (first
            | (refine step_append_lies _ rfl _ _ 25 rfl (w3.heap.size + 1) 27 i0 (.agg #[.string ⟨#[]⟩, .slice none 0 0]) 2 40 Tryz.underlying25 hi hz0 hz1 hz2 rfl (by decide) v L.length (flatL L) rfl (O2.out.1.alloc _) ⟨w2.heap.size, 0, none⟩ 1 1 [.string u.nm, .slice q1 u.args.length c1'] rfl rfl (news2 _ _ _ _) (one2 _ _ _ _) (by decide) A1 A2 A3 (w2.heap.size + 1) (by simp) ?_; intro g cap w4 hown hgrow hat hlt3; have O3 := Lib.hid (O2.out.add (by omega) (by omega) S2.out NU.out hbl (fun k hk => (hv.out k hk).2) hown hgrow hat); have nv1 : v.ownBlock ≠ some w3.heap.size := (fun e => absurd (hv.out _ e).1 (by omega)); have nv2 : v.ownBlock ≠ some (w.heap.size + 1) := (fun e => absurd (hv.out _ e).1 (by omega)); have nv3 : v.ownBlock ≠ some w.heap.size := (fun e => absurd (hv.out _ e).1 (by omega)); have C3 := Lib.hid (UniD.Has.grown (C2.out.alloc _) hgrow nv1); have E3 := Lib.hid (UniD.Has.grown (E2.out.alloc _) hgrow nv2); have H3 := Lib.hid (UniD.Has.grown (H2.out.alloc _) hgrow nv3); have D3 := Lib.hid ((D2.out.alloc (by exact D2.out.size) _).grown hgrow (by have := D2.out.size; simp; omega) (fun k hk => by have := (hv.out k hk).1; omega)); clear hown hgrow hat; obtain ⟨u1, u2, u3, u4, u5⟩ := C3.out.two)
            | (go_simp; go_at_call 21; refine (IT.out _ (by first | exact Below.refl _ _ | exact (Below.refl _ _).drew | exact below_drewN (Below.refl _ _) _)).mono ?_; rintro e w2 ⟨q1, c1', rfl, s2, nu, b2⟩; have G2 : Below wr.heap.size wr w2 := (by first | exact b2 | exact next0 (Below.refl _ _).drew b2 | exact next0 (below_drewN (Below.refl _ _) _) b2); have hz22 : wr.heap.size ≤ w2.heap.size := G2.size; have S2 := Lib.hid (s2.weaken (ok' := fun b => b < B ∨ (wr.heap.size ≤ b ∧ b < w2.heap.size)) (fun b hb => hb)); have NU := Lib.hid nu; have D2 := Lib.hid (hD.out.trans (G2.mono hD.out.size)); have O2 := Lib.hid (hO.out.below G2); have C2 := Lib.hid (hC.out.step0 G2); have E2 := Lib.hid (hE.out.step0 G2); have H2 := Lib.hid (hH.out.step0 G2); have A3 : w3.heap.size + 1 ≤ (w2.alloc (.cells #[.string u.nm, .slice q1 u.args.length c1'] 27)).heap.size := (by have := C2.out.lt; simp; omega); clear s2 b2 G2 nu; obtain ⟨z1, z2, z3, z4, z5⟩ := C2.out.two))
          all_goals
            go_wp2_with fail
            go_roundw
            case rel => exact ⟨k + 1, L ++ [(u, .slice q1 u.args.length c1')], _, by omega, by go_num, Lib.hid (by rw [List.map_append, hL.out, TT.out]; rfl), Lib.hid (O3.out.far (by simp) (by simp; omega) _), Lib.hid (C3.out.set 1 _), Lib.hid (H3.out.far (by show w.heap.size ≠ w3.heap.size; omega) _), Lib.hid (E3.out.far (by show w.heap.size + 1 ≠ w3.heap.size; omega) _), Lib.hid (D3.out.setCell (by show w.heap.size ≤ w3.heap.size; omega) _)⟩
            case measure => simp [intOf]; omega
        · obtain rfl : k = m := by omega
          obtain ⟨a, c', rfl⟩ := hO.out.form
          have hLl : L.length = k := by
            have := congrArg List.length hL.out
            rw [List.length_map, List.length_map, List.length_take, HM.out] at this
            omega
          have HL : Hid (L.map (·.1) = l.map (appT s)) := Lib.hid (by rw [hL.out, FT.out])
          rw [hLl] at hO hC
          obtain ⟨x1, x2, _, _, x5⟩ := hC.out.two
          obtain ⟨z1, z2, _, _, z5⟩ := hH.out.two
          obtain ⟨y1, y2, y3, y4, y5⟩ := hE.out.two
          have O4 := Lib.hid (((hO.out.far (p := ⟨w.heap.size + 1, 0, none⟩) (by show w.heap.size + 1 < w3.heap.size + 1; omega) (by show B ≤ w.heap.size + 1; omega) (.string n)).far (p := ⟨w.heap.size + 1, 1, none⟩) (by show w.heap.size + 1 < w3.heap.size + 1; omega) (by show B ≤ w.heap.size + 1; omega) (.slice a k c')))
          have D4 := Lib.hid ((hD.out.setCell (p := ⟨w.heap.size + 1, 0, none⟩) (by simp) (.string n)).setCell (p := ⟨w.heap.size + 1, 1, none⟩) (by simp) (.slice a k c'))
          have r1 := hE.out.put0 (.string n) (.slice a k c')
          have r2 := hE.out.put1 (.string n) (.slice a k c')
          clear hLl
          go_wp2_with fail
          refine bodyPost_ret (v := .agg #[.string n, .slice a k c']) (by simp [results, Tryz.results21, go_sem, r1, r2]) rfl ?_
          refine ⟨a, c', rfl, ?_, HNM.out, D4.out⟩
          rw [← HL.out]
          exact O4.out.slin.weaken (fun b hb => by have := hb; omega)
end UniH
end Go.Proofs.YtihbnonbhelbmaaGreatDoor
/- resolve of the code's classes. Conditions: texts of at most a million bytes; the variable nameEnds holds its bytes. Made by genunmd.py. -/
namespace Go.Proofs.YtihbnonbhelbmaaGreatDoor
open Go Go.RowKit Go.Maps Go.WideMaps
namespace UnmD
open LexM TermM TermI Kit TermN TermU UniK UniM UniG UniL UniD UniH TermT UnmA UnmB UnmC
theorem leaf_nil (n : ByteArray) (w : World) : Calls Tryz.prog 57 #[.string n] w fun e w' => e = .returned (.agg #[.string n, .slice none 0 0]) ∧ Below w.heap.size w w' := by
  go_enter Tryz.func57, Tryz.ntmps57
  go_wp2_with fail
  refine bodyPost_ret (v := .agg #[.string n, .slice none 0 0]) (by simp [results, Tryz.results57, go_sem]) rfl ?_
  exact ⟨rfl, below_alloc w _⟩
theorem mapO_len {α β : Type} {f : α → Option β} : ∀ {l : List α} {r : List β}, mapO f l = some r → r.length = l.length
  | [], r, h => by cases h; rfl
  | x :: l, r, h => by
    unfold mapO at h
    cases h1 : f x with
    | none => rw [h1] at h; cases h
    | some y =>
      cases h2 : mapO f l with
      | none => rw [h1, h2] at h; cases h
      | some r' =>
        rw [h1, h2] at h
        cases h
        simp [mapO_len h2]
theorem mapO_take {α β : Type} {f : α → Option β} : ∀ {l : List α} {r : List β}, mapO f l = some r → ∀ (k : Nat) (x : α), l[k]? = some x → ∃ y, r[k]? = some y ∧ f x = some y
  | [], r, h => by intro k x hx; simp at hx
  | x :: l, r, h => by
    unfold mapO at h
    cases h1 : f x with
    | none => rw [h1] at h; cases h
    | some y =>
      cases h2 : mapO f l with
      | none => rw [h1, h2] at h; cases h
      | some r' =>
        rw [h1, h2] at h
        cases h
        intro k z hz
        cases k with
        | zero => simp at hz; subst hz; exact ⟨y, rfl, h1⟩
        | succ k => exact mapO_take h2 k z (by simpa using hz)
set_option maxRecDepth 100000 in
set_option maxHeartbeats 6400000 in
theorem res_any (D : Cls) (n d : Nat) : d ≤ 100 → ∀ (t u : Tm), resP D n d t = some u → ∀ (B bm : Nat) (w : World) (tv : Value), Wd w → B ≤ w.heap.size → Cl w bm B D → SlIn (· < B) w t.args tv → Ok t →
    Calls Tryz.prog 56 #[.map (some bm), .agg #[.string t.nm, tv], .int .i64 d] w (RApR 0 u w) := by
  obtain ⟨i0, hi, hz0, hz1, hz2⟩ := info_parts Tryz.info28
  induction d with
  | zero =>
    intro hd t u hr B bm w tv hw hB hC h ot
    obtain ⟨p, c, rfl⟩ := h.form
    obtain ⟨x, hx⟩ : ∃ x, leadP D n t = some x := by
      unfold resP at hr
      cases h : leadP D n t with
      | none => rw [h] at hr; cases hr
      | some x => exact ⟨x, rfl⟩
    obtain ⟨W2, hW2⟩ : ∃ W2, W2 = (w.alloc (.cells #[.string t.nm, .slice p t.args.length c] 27)).alloc (.cells #[.string ⟨#[]⟩, .slice none 0 0] 27) := ⟨_, rfl⟩
    have B2 : Hid (Below w.heap.size w W2) := Lib.hid (by rw [hW2]; exact ((Gr.alloc _ _).more _).1)
    have hs2 : w.heap.size + 2 ≤ W2.heap.size := by rw [hW2]; simp
    have H2 : Hid (Has W2 w.heap.size #[.string t.nm, .slice p t.args.length c]) := Lib.hid (by rw [hW2]; exact (Has.new w _ _).alloc _)
    have E2 : Hid (Has W2 (w.heap.size + 1) #[.string ⟨#[]⟩, .slice none 0 0]) := Lib.hid (by rw [hW2]; exact Has.new1 w _ _ _)
    have LA := Lib.hid (fun w' (k : Below w.heap.size w w') => leader_any D n t x hx B bm w' _ (hw.below k hw.1) (Nat.le_trans hB k.size) (hC.keep k hB) (h.deep k hB) ot)
    have HB := Lib.hid hB
    unfold TmR at LA
    unfold RApR
    have e9 : u = .mk x.nm [] := by
      unfold resP at hr
      rw [hx] at hr
      simpa using hr.symm
    generalize t.nm = tn at *
    generalize t.args.length = tl at *
    generalize hxn : x.nm = xn at *
    have HXN := Lib.hid hxn
    generalize hm : x.args.length = m at *
    have HM := Lib.hid hm
    subst e9
    clear hC h hw hr hx hm
    dsimp only [Tm.nm, Tm.args, List.length_nil]
    obtain ⟨y1, y2, y3, y4, y5⟩ := H2.out.two
    go_enter Tryz.func56, Tryz.ntmps56
    go_upto_region 1 with fail
    rw [← hW2]
    clear hW2
    go_wp2_with fail
    refine (LA.out _ B2.out).mono ?_
    rintro e w3 ⟨p3, c3, rfl, s3, o3, b3⟩
    have D3 := Lib.hid (next0 B2.out b3)
    have E3 := Lib.hid (E2.out.step0 b3)
    have S3 := Lib.hid s3
    have O3 := Lib.hid o3
    have hs3 : w.heap.size + 2 ≤ w3.heap.size := Nat.le_trans hs2 b3.size
    clear y1 y2 y3 y4 y5 LA H2 E2 B2 s3 b3
    obtain ⟨W4, hW4⟩ : ∃ W4, W4 = w3.alloc (.cells #[.string xn, .slice p3 m c3] 27) := ⟨_, rfl⟩
    have N4 : Hid (Has W4 w3.heap.size #[.string xn, .slice p3 m c3]) := Lib.hid (by rw [hW4]; exact Has.new _ _ _)
    have E4 : Hid (Has W4 (w.heap.size + 1) #[.string ⟨#[]⟩, .slice none 0 0]) := Lib.hid (by rw [hW4]; exact E3.out.alloc _)
    have D4 : Hid (Below w.heap.size w W4) := Lib.hid (by rw [hW4]; exact next0 D3.out (below_alloc _ _))
    have S4 : Hid (SlIn (· < B) W4 x.args (.slice p3 m c3)) := Lib.hid (by rw [hW4]; exact S3.out.deep (below_alloc _ _) (Nat.le_trans HB.out D3.out.size))
    have CLf := Lib.hid (fun w' => leaf_nil xn w')
    obtain ⟨y1, y2, _⟩ := N4.out.two
    clear S3 D3 E3
    go_upto_region 2 with fail
    rw [← hW4]
    clear hW4
    go_wp2_with fail
    refine (CLf.out _).mono ?_
    rintro e w5 ⟨rfl, b5⟩
    have D5 := Lib.hid (next0 D4.out b5)
    have E5 := Lib.hid (E4.out.step0 b5)
    have N5 := Lib.hid (N4.out.step0 b5)
    have S5 := Lib.hid (S4.out.deep b5 (Nat.le_trans HB.out D4.out.size))
    have hl5 : w3.heap.size < w5.heap.size := N5.out.lt
    have hs5 : w.heap.size + 2 ≤ w5.heap.size := by omega
    clear y1 y2 b5 N4 E4 D4 S4 CLf
    obtain ⟨W6, hW6⟩ : ∃ W6, W6 = w5.alloc (.cells #[.string xn, .slice none 0 0] 27) := ⟨_, rfl⟩
    have R6 : Hid (Has W6 w5.heap.size #[.string xn, .slice none 0 0]) := Lib.hid (by rw [hW6]; exact Has.new _ _ _)
    have E6 : Hid (Has W6 (w.heap.size + 1) #[.string ⟨#[]⟩, .slice none 0 0]) := Lib.hid (by rw [hW6]; exact E5.out.alloc _)
    have N6 : Hid (Has W6 w3.heap.size #[.string xn, .slice p3 m c3]) := Lib.hid (by rw [hW6]; exact N5.out.alloc _)
    have D6 : Hid (Below w.heap.size w W6) := Lib.hid (by rw [hW6]; exact next0 D5.out (below_alloc _ _))
    have S6 : Hid (SlIn (· < B) W6 x.args (.slice p3 m c3)) := Lib.hid (by rw [hW6]; exact S5.out.deep (below_alloc _ _) (Nat.le_trans HB.out D5.out.size))
    clear D5 E5 N5 S5
    go_upto_region 3 with fail
    rw [← hW6]
    clear hW6
    obtain ⟨z1, z2, z3, z4, z5⟩ := R6.out.two
    obtain ⟨y1, y2, y3, y4, y5⟩ := E6.out.two
    have r1 := E6.out.put0 (.string xn) (.slice none 0 0)
    have r2 := E6.out.put1 (.string xn) (.slice none 0 0)
    have D7 := Lib.hid ((D6.out.setCell (p := ⟨w.heap.size + 1, 0, none⟩) (by simp) (.string xn)).setCell (p := ⟨w.heap.size + 1, 1, none⟩) (by simp) (.slice none 0 0))
    clear N6 S6 E6 R6 D6
    go_wp2_with fail
    refine bodyPost_ret (v := .agg #[.string xn, .slice none 0 0]) (by simp [results, Tryz.results56, go_sem, r1, r2]) rfl ?_
    exact ⟨none, 0, rfl, SlIn.none _ _, HXN.out ▸ O3.out.1, D7.out⟩
  | succ d ih =>
    intro hd t u hr B bm w tv hw hB hC h ot
    obtain ⟨p, c, rfl⟩ := h.form
    obtain ⟨x, hx⟩ : ∃ x, leadP D n t = some x := by
      unfold resP at hr
      cases h : leadP D n t with
      | none => rw [h] at hr; cases hr
      | some x => exact ⟨x, rfl⟩
    obtain ⟨W2, hW2⟩ : ∃ W2, W2 = (w.alloc (.cells #[.string t.nm, .slice p t.args.length c] 27)).alloc (.cells #[.string ⟨#[]⟩, .slice none 0 0] 27) := ⟨_, rfl⟩
    have B2 : Hid (Below w.heap.size w W2) := Lib.hid (by rw [hW2]; exact ((Gr.alloc _ _).more _).1)
    have hs2 : w.heap.size + 2 ≤ W2.heap.size := by rw [hW2]; simp
    have H2 : Hid (Has W2 w.heap.size #[.string t.nm, .slice p t.args.length c]) := Lib.hid (by rw [hW2]; exact (Has.new w _ _).alloc _)
    have E2 : Hid (Has W2 (w.heap.size + 1) #[.string ⟨#[]⟩, .slice none 0 0]) := Lib.hid (by rw [hW2]; exact Has.new1 w _ _ _)
    have LA := Lib.hid (fun w' (k : Below w.heap.size w w') => leader_any D n t x hx B bm w' _ (hw.below k hw.1) (Nat.le_trans hB k.size) (hC.keep k hB) (h.deep k hB) ot)
    have HB := Lib.hid hB
    unfold TmR at LA
    unfold RApR
    obtain ⟨r, hr9, e9⟩ : ∃ r, mapO (resP D n d) x.args = some r ∧ u = .mk x.nm r := by
      unfold resP at hr
      rw [hx] at hr
      simp only [Option.bind_some] at hr
      cases h9 : mapO (resP D n d) x.args with
      | none => rw [h9] at hr; cases hr
      | some r => rw [h9] at hr; cases hr; exact ⟨r, rfl, rfl⟩
    have TK := Lib.hid (mapO_take hr9)
    have ll : Hid (r.length = x.args.length) := Lib.hid (mapO_len hr9)
    have IH : Hid (∀ (a u : Tm), resP D n d a = some u → Ok a → ∀ (w' : World) (v : Value), Below w.heap.size w w' → SlIn (· < B) w' a.args v → Calls Tryz.prog 56 #[.map (some bm), .agg #[.string a.nm, v], .int .i64 d] w' (RApR 0 u w')) :=
      Lib.hid (fun a u hr o w' v k hs => ih (by omega) a u hr B bm w' v (hw.below k hw.1) (Nat.le_trans hB k.size) (hC.keep k hB) hs o)
    have hd0 : ((((d + 1 : Nat)) : Int) == 0) = false := by rw [beq_eq_false_iff_ne]; omega
    have hd1 : IntKind.i64.wrap (((d + 1 : Nat) : Int) - 1) = (d : Int) := by
      have : (((d + 1 : Nat) : Int) - 1) = (d : Int) := by omega
      rw [this]
      exact IntWalk.i64_in _ ⟨by omega, by omega⟩
    generalize (((d + 1 : Nat)) : Int) = dz at *
    have OX : Hid (∀ o : Ok x, x.args.length ≤ 1000000) := Lib.hid (fun o => by
      have h1 := o.2.2
      have h2 := len_size x.args
      obtain ⟨xn, xl⟩ := x
      simp only [sizeT, Tm.args] at h1 h2 ⊢
      omega)
    generalize t.nm = tn at *
    generalize t.args.length = tl at *
    generalize hxn : x.nm = xn at *
    have HXN := Lib.hid hxn
    generalize hm : x.args.length = m at *
    have HM := Lib.hid hm
    subst e9
    clear hC h hw hr hx hr9 ih hm
    dsimp only [Tm.nm, Tm.args]
    rw [ll.out]
    obtain ⟨y1, y2, y3, y4, y5⟩ := H2.out.two
    go_enter Tryz.func56, Tryz.ntmps56
    go_upto_region 1 with fail
    rw [← hW2]
    clear hW2
    go_wp2_with fail
    refine (LA.out _ B2.out).mono ?_
    rintro e w3 ⟨p3, c3, rfl, s3, o3, b3⟩
    have D3 := Lib.hid (next0 B2.out b3)
    have E3 := Lib.hid (E2.out.step0 b3)
    have S3 := Lib.hid s3
    have O3 := Lib.hid o3
    have hs3 : w.heap.size + 2 ≤ w3.heap.size := Nat.le_trans hs2 b3.size
    clear y1 y2 y3 y4 y5 LA H2 E2 B2 s3 b3
    obtain ⟨W4, hW4⟩ : ∃ W4, W4 = w3.alloc (.cells #[.string xn, .slice p3 m c3] 27) := ⟨_, rfl⟩
    have N4 : Hid (Has W4 w3.heap.size #[.string xn, .slice p3 m c3]) := Lib.hid (by rw [hW4]; exact Has.new _ _ _)
    have E4 : Hid (Has W4 (w.heap.size + 1) #[.string ⟨#[]⟩, .slice none 0 0]) := Lib.hid (by rw [hW4]; exact E3.out.alloc _)
    have D4 : Hid (Below w.heap.size w W4) := Lib.hid (by rw [hW4]; exact next0 D3.out (below_alloc _ _))
    have S4 : Hid (SlIn (· < B) W4 x.args (.slice p3 m c3)) := Lib.hid (by rw [hW4]; exact S3.out.deep (below_alloc _ _) (Nat.le_trans HB.out D3.out.size))
    have CLf := Lib.hid (fun w' => leaf_nil xn w')
    obtain ⟨y1, y2, _⟩ := N4.out.two
    clear S3 D3 E3
    go_upto_region 2 with fail
    rw [← hW4]
    clear hW4
    go_wp2_with fail
    refine (CLf.out _).mono ?_
    rintro e w5 ⟨rfl, b5⟩
    have D5 := Lib.hid (next0 D4.out b5)
    have E5 := Lib.hid (E4.out.step0 b5)
    have N5 := Lib.hid (N4.out.step0 b5)
    have S5 := Lib.hid (S4.out.deep b5 (Nat.le_trans HB.out D4.out.size))
    have hl5 : w3.heap.size < w5.heap.size := N5.out.lt
    have hs5 : w.heap.size + 2 ≤ w5.heap.size := by omega
    clear y1 y2 b5 N4 E4 D4 S4 CLf
    obtain ⟨W6, hW6⟩ : ∃ W6, W6 = w5.alloc (.cells #[.string xn, .slice none 0 0] 27) := ⟨_, rfl⟩
    have R6 : Hid (Has W6 w5.heap.size #[.string xn, .slice none 0 0]) := Lib.hid (by rw [hW6]; exact Has.new _ _ _)
    have E6 : Hid (Has W6 (w.heap.size + 1) #[.string ⟨#[]⟩, .slice none 0 0]) := Lib.hid (by rw [hW6]; exact E5.out.alloc _)
    have N6 : Hid (Has W6 w3.heap.size #[.string xn, .slice p3 m c3]) := Lib.hid (by rw [hW6]; exact N5.out.alloc _)
    have D6 : Hid (Below w.heap.size w W6) := Lib.hid (by rw [hW6]; exact next0 D5.out (below_alloc _ _))
    have S6 : Hid (SlIn (· < B) W6 x.args (.slice p3 m c3)) := Lib.hid (by rw [hW6]; exact S5.out.deep (below_alloc _ _) (Nat.le_trans HB.out D5.out.size))
    clear D5 E5 N5 S5
    go_upto_region 3 with fail
    rw [← hW6]
    clear hW6
    have OA := Lib.hid (fun (a : Tm) (ha : a ∈ x.args) (hn : a.nm.size ≤ maxLen) => O3.out.arg ha hn)
    obtain ⟨p', c', e1, hpn, hcc, hcm, hR⟩ := S6.out.row
    injection e1 with e1 e3 e2
    subst e1 e2
    have HR := Lib.hid hR
    have hlb : m ≤ 1000000 := by have := OX.out O3.out; omega
    clear hR hpn hcc hcm e3
    obtain ⟨z1, z2, _⟩ := N6.out.two
    go_wp2_with fail
    clear z1 z2
    have hs6 : w5.heap.size < W6.heap.size := R6.out.lt
    have hB5 : B ≤ w5.heap.size := by have := HB.out; omega
    go_loopw [23] (fun i wr => ∃ (k : Nat) (L : List (Tm × Value)) (v : Value), k ≤ m ∧ i = .int .i64 k ∧ Hid (L.map (·.1) = r.take k) ∧ Hid (OwnB 0 (w5.heap.size + 1) wr L v) ∧ Hid (Has wr w5.heap.size #[.string xn, v]) ∧ Hid (Has wr w3.heap.size #[.string xn, .slice p3 m c3]) ∧ Hid (Has wr (w.heap.size + 1) #[.string ⟨#[]⟩, .slice none 0 0]) ∧ Hid (Below w.heap.size w wr) ∧ Hid (Below B W6 wr)) (fun i _ => m - (intOf i).toNat)
    case atStart => exact ⟨0, [], _, Nat.zero_le _, rfl, Lib.hid rfl, Lib.hid (OwnB.nil _ _ _), R6, N6, E6, D6, Lib.hid (Below.refl _ _)⟩
    case round =>
      obtain ⟨k, L, v, hk, rfl, hL, hO, hC, hH, hE, hD, hK⟩ := hrel
      by_cases hlt : k < m
      · obtain ⟨t, b, o, q, d9, ht, rfl, hb, c1, c2, hs, hts⟩ := (Row.deep HR.out hK.out (Nat.le_refl _)) k (by rw [HM.out]; exact hlt)
        obtain ⟨u, hu, hru⟩ := TK.out k t ht
        have hLl : L.length = k := by
          have := congrArg List.length hL.out
          rw [List.length_map, List.length_take, ll.out] at this
          omega
        have hLl2 : L.length ≤ 1000000 := by omega
        obtain ⟨W7, hW7⟩ : ∃ W7, W7 = wr.alloc (.cells #[.string t.nm, .slice q t.args.length d9] 27) := ⟨_, rfl⟩
        have T7 : Hid (Below wr.heap.size wr W7) := Lib.hid (by rw [hW7]; exact below_alloc _ _)
        have A7 : Hid (Has W7 wr.heap.size #[.string t.nm, .slice q t.args.length d9]) := Lib.hid (by rw [hW7]; exact Has.new _ _ _)
        have IT := Lib.hid (fun w' (g : Below wr.heap.size wr w') => IH.out t u hru (OA.out t (List.mem_of_getElem? ht) hts) w' _ (next0 hD.out g) (hs.deep g (Nat.le_trans HB.out hD.out.size)))
        have hv := Lib.hid hO.out.1.lt
        have A1 : L.length + 1 ≤ maxLen := by unfold maxLen; omega
        have A2 : (L.length + 1) * 40 ≤ 140737488355328 := by omega
        have hDs := hD.out.size
        have hbs : w5.heap.size + 1 ≤ wr.heap.size := hC.out.lt
        have TT : Hid (r.take (k + 1) = r.take k ++ [u]) := Lib.hid (take_get r k u hu)
        have HD7 := Lib.hid (next0 hD.out T7.out)
        have HC7 := Lib.hid (hC.out.step0 T7.out)
        have HH7 := Lib.hid (hH.out.step0 T7.out)
        have HE7 := Lib.hid (hE.out.step0 T7.out)
        have HO7 := Lib.hid (hO.out.below T7.out)
        obtain ⟨a1, a2, _⟩ := A7.out.two
        obtain ⟨x1, x2, x3, x4, hbl⟩ := HC7.out.two
        have hwl : wr.heap.size < W7.heap.size := A7.out.lt
        clear hs hts ht hLl hu hru
        generalize t.nm = tn at *
        generalize t.args.length = ta at *
        unfold RApR at IT
        go_upto_region 8 with fail
        rw [← hW7]
        clear hW7 c1 c2
        go_region_law (first
          | (refine step_append_lies _ rfl _ _ 25 rfl (w5.heap.size + 1) 27 i0 (.agg #[.string ⟨#[]⟩, .slice none 0 0]) 2 40 Tryz.underlying25 hi hz0 hz1 hz2 rfl (by decide) v L.length (flatL L) rfl (O2.out.1.alloc _) ⟨w2.heap.size, 0, none⟩ 1 1 [.string u.nm, .slice q1 u.args.length c1'] rfl rfl (news2 _ _ _ _) (one2 _ _ _ _) (by decide) A1 A2 A3 (w2.heap.size + 1) (by simp) ?_; intro g cap w4 hown hgrow hat hlt3; have O3 := Lib.hid (O2.out.add (by omega) (by omega) S2.out NU.out hbw (fun k hk => by have := (hv.out k hk).2; omega) hown hgrow hat); have nv1 : v.ownBlock ≠ some w5.heap.size := (fun e => absurd (hv.out _ e).1 (by omega)); have nv2 : v.ownBlock ≠ some (w.heap.size + 1) := (fun e => absurd (hv.out _ e).1 (by omega)); have nv3 : v.ownBlock ≠ some w3.heap.size := (fun e => absurd (hv.out _ e).1 (by omega)); have C3 := Lib.hid (UniD.Has.grown (C2.out.alloc _) hgrow nv1); have E3 := Lib.hid (UniD.Has.grown (E2.out.alloc _) hgrow nv2); have H3 := Lib.hid (UniD.Has.grown (H2.out.alloc _) hgrow nv3); have D3 := Lib.hid ((D2.out.alloc (by exact D2.out.size) _).grown hgrow (by have := D2.out.size; simp; omega) (fun k hk => by have := (hv.out k hk).1; omega)); have K3 := Lib.hid ((K2.out.alloc (by have := hK2; omega) _).grown hgrow (by have := hK2; simp; omega) (fun k hk => by have := (hv.out k hk).1; omega)); clear hown hgrow hat; obtain ⟨u1, u2, u3, u4, u5⟩ := C3.out.two)
          | (go_simp; go_at_call 56; refine (IT.out _ (by first | exact T7.out | exact T7.out.drew | exact below_drewN T7.out _)).mono ?_; rintro e w2 ⟨q1, c1', rfl, s2, nu, b2⟩; have G2 : Below W7.heap.size W7 w2 := (by first | exact b2 | exact next0 (Below.refl _ _).drew b2 | exact next0 (below_drewN (Below.refl _ _) _) b2); have hz22 : W7.heap.size ≤ w2.heap.size := G2.size; have S2 := Lib.hid (s2.weaken (ok' := fun b => b < 0 ∨ (W7.heap.size ≤ b ∧ b < w2.heap.size)) (fun b hb => hb)); have NU := Lib.hid nu; have D2 := Lib.hid (next0 HD7.out G2); have K2 := Lib.hid (hK.out.trans ((next0 T7.out G2).mono (Nat.le_trans HB.out hDs))); have hK2 : B ≤ w2.heap.size := (by have := HB.out; omega); have hbw : w5.heap.size + 1 ≤ W7.heap.size := (by omega); have O2 := Lib.hid (HO7.out.below G2); have C2 := Lib.hid (HC7.out.step0 G2); have E2 := Lib.hid (HE7.out.step0 G2); have H2 := Lib.hid (HH7.out.step0 G2); have A3 : w5.heap.size + 1 ≤ (w2.alloc (.cells #[.string u.nm, .slice q1 u.args.length c1'] 27)).heap.size := (by have := C2.out.lt; simp; omega); clear s2 b2 G2 nu; obtain ⟨z1, z2, z3, z4, z5⟩ := C2.out.two))
        all_goals
          go_wp2_with fail
          go_roundw
          case rel => (repeat (refine Exists.intro _ ?_)); first | (refine ⟨?_, rfl⟩; exact ⟨k + 1, L ++ [(u, .slice q1 u.args.length c1')], _, by omega, by go_num, Lib.hid (by rw [List.map_append, hL.out, TT.out]; rfl), Lib.hid (O3.out.far (by simp) (Nat.zero_le _) _), Lib.hid (C3.out.set 1 _), Lib.hid (H3.out.far (by show w3.heap.size ≠ w5.heap.size; omega) _), Lib.hid (E3.out.far (by show w.heap.size + 1 ≠ w5.heap.size; omega) _), Lib.hid (D3.out.setCell (by show w.heap.size ≤ w5.heap.size; omega) _), Lib.hid (K3.out.setCell (by show B ≤ w5.heap.size; omega) _)⟩) | exact ⟨k + 1, L ++ [(u, .slice q1 u.args.length c1')], _, by omega, by go_num, Lib.hid (by rw [List.map_append, hL.out, TT.out]; rfl), Lib.hid (O3.out.far (by simp) (Nat.zero_le _) _), Lib.hid (C3.out.set 1 _), Lib.hid (H3.out.far (by show w3.heap.size ≠ w5.heap.size; omega) _), Lib.hid (E3.out.far (by show w.heap.size + 1 ≠ w5.heap.size; omega) _), Lib.hid (D3.out.setCell (by show w.heap.size ≤ w5.heap.size; omega) _), Lib.hid (K3.out.setCell (by show B ≤ w5.heap.size; omega) _)⟩
          case measure => simp [intOf]; omega
      · obtain rfl : k = m := by omega
        obtain ⟨a, c', rfl⟩ := hO.out.form
        have hLl : L.length = k := by
          have := congrArg List.length hL.out
          rw [List.length_map, List.length_take, ll.out] at this
          omega
        have HL : Hid (L.map (·.1) = r) := Lib.hid (by rw [hL.out, ← ll.out, List.take_length])
        rw [hLl] at hO hC
        obtain ⟨x1, x2, _, _, x5⟩ := hC.out.two
        obtain ⟨y1, y2, y3, y4, y5⟩ := hE.out.two
        have O4 := Lib.hid (((hO.out.far (p := ⟨w.heap.size + 1, 0, none⟩) (by show w.heap.size + 1 < w5.heap.size + 1; omega) (Nat.zero_le _) (.string xn)).far (p := ⟨w.heap.size + 1, 1, none⟩) (by show w.heap.size + 1 < w5.heap.size + 1; omega) (Nat.zero_le _) (.slice a k c')))
        have D4 := Lib.hid ((hD.out.setCell (p := ⟨w.heap.size + 1, 0, none⟩) (by simp) (.string xn)).setCell (p := ⟨w.heap.size + 1, 1, none⟩) (by simp) (.slice a k c'))
        have r1 := hE.out.put0 (.string xn) (.slice a k c')
        have r2 := hE.out.put1 (.string xn) (.slice a k c')
        clear hLl
        go_wp2_with fail
        refine bodyPost_ret (v := .agg #[.string xn, .slice a k c']) (by simp [results, Tryz.results56, go_sem, r1, r2]) rfl ?_
        refine ⟨a, c', rfl, ?_, HXN.out ▸ O3.out.1, D4.out⟩
        rw [← HL.out]
        exact O4.out.slin.weaken (fun b hb => by have := hb; omega)
end UnmD
end Go.Proofs.YtihbnonbhelbmaaGreatDoor
/- A row of strings behind the library's sort; unifiers as plain data, with fuel. No conditions. -/
namespace Go.Proofs.YtihbnonbhelbmaaGreatDoor
open Go Go.RowKit Go.Maps Go.WideMaps
namespace UnmE
open LexM TermM TermI Kit TermN TermU TermL TermE TermF UniK UniM UniG UniL UniD TermT UnmA UnmB UnmC UnmD
def lists (vs : List ByteArray) : List (List UInt8) := vs.map fun v => v.data.toList
def bytesOf (ls : List (List UInt8)) : List ByteArray := ls.map fun l => ⟨l.toArray⟩
/-- The strings, ascending. -/
def sortB (vs : List ByteArray) : List ByteArray := bytesOf ((lists vs).mergeSort fun x y => decide (x ≤ y))
theorem sortB_len (vs : List ByteArray) : (sortB vs).length = vs.length := by simp [sortB, bytesOf, lists]
theorem strs_bytes (ls : List (List UInt8)) : strs (bytesOf ls) = ls.map encStr := by simp [strs, bytesOf]
theorem bytes_lists (vs : List ByteArray) : bytesOf (lists vs) = vs := by
  unfold bytesOf lists
  rw [List.map_map]
  exact List.map_id _
theorem sortB_mem {vs : List ByteArray} {v : ByteArray} (h : v ∈ sortB vs) : v ∈ vs := by
  unfold sortB bytesOf at h
  obtain ⟨l, hl, rfl⟩ := List.mem_map.1 h
  have h1 := List.mem_mergeSort.1 hl
  unfold lists at h1
  obtain ⟨x, hx, rfl⟩ := List.mem_map.1 h1
  exact hx
/-- The row holds what is put into it. -/
theorem put_row {w : World} {base g cap : Nat} {ls : List (List UInt8)} {e : TypeId} {xs : List Value} (h : w.ownsRow base e 1 (.slice (some ⟨g, 0, none⟩) ls.length cap) ls.length xs) (n : Nat) (os : Array Obj) :
    (Sort.grow (Sort.putRow encStr (Sort.ahead w n) g 0 ls.toArray) os).ownsRow base e 1 (.slice (some ⟨g, 0, none⟩) ls.length cap) ls.length (ls.map encStr) ∧ Below base w (Sort.grow (Sort.putRow encStr (Sort.ahead w n) g 0 ls.toArray) os) := by
  obtain ⟨h1, h2⟩ := h
  rcases h2 with ⟨e1, _⟩ | ⟨g', cap', cur, e1, e2, e3, e4, e5, e6, e7⟩
  · cases e1
  · cases e1
    have hg : g < w.heap.size := (Array.getElem?_eq_some_iff.1 e3).1
    refine ⟨⟨by simp, Or.inr ⟨g, cap, Sort.putCells encStr 0 ls.toArray cur, rfl, e2, ?_, e4, e5, ?_, ?_⟩⟩, ⟨rfl, rfl, rfl, ?_, fun b hb => ?_⟩⟩
    · have e9 : (w.heap.modify g (Sort.onCells (Sort.putCells encStr 0 ls.toArray)))[g]? = some (.cells (Sort.putCells encStr 0 ls.toArray cur) e (0, 0)) := by rw [Array.getElem?_modify, if_pos rfl, e3]; rfl
      show ((w.heap.modify g (Sort.onCells (Sort.putCells encStr 0 ls.toArray))) ++ os)[g]? = _
      rw [Array.getElem?_append_left (by simpa using hg)]
      exact e9
    · simpa [Sort.putCells] using e6
    · apply List.ext_getElem?
      intro i
      simp only [Nat.mul_one, List.getElem?_take, List.getElem?_map]
      by_cases hi : i < ls.length
      · have hc : i < cur.size := by omega
        rw [if_pos hi]
        simp [Sort.putCells, hi, hc]
      · rw [if_neg hi]
        simp [List.getElem?_eq_none (Nat.not_lt.1 hi)]
    · simp [Sort.grow, Sort.putRow, Sort.mapBlock, Sort.ahead]
    · have : g ≠ b := by omega
      by_cases hbl : b < w.heap.size
      · show ((w.heap.modify g (Sort.onCells (Sort.putCells encStr 0 ls.toArray))) ++ os)[b]? = _
        rw [Array.getElem?_append_left (by simpa using hbl), Array.getElem?_modify, if_neg this]
      · omega
/-- The unifier. -/
def unifyP (n : Nat) (a b : Tm) : Option (Option (List Bd)) :=
  if (validT false 4 a && validT false 4 b) = false then some none else
    match joinP n [] a b with
    | none => none
    | some (_, false) => some none
    | some (D, true) => (solP D n (sortB (varsOf (leavesL [a, b])))).map fun s => if vldS s = true then some s else none
end UnmE
end Go.Proofs.YtihbnonbhelbmaaGreatDoor
/- The code's Match. Conditions: the substitution's terms and the ground term have at most a million parts. -/
namespace Go.Proofs.YtihbnonbhelbmaaGreatDoor
open Go Go.RowKit
namespace UniQ
open LexM TermM TermI Kit TermN TermU TermH UniK UniM UniA UniC UniD UniE UniG UniJ UniO UniL UniP
set_option maxRecDepth 100000 in
set_option maxHeartbeats 6400000 in
theorem match_any (p t : Tm) (s : List Bd) (hz : sizeT t ≤ 1000000) (hsz : ∀ y ∈ s, sizeT y.2 ≤ 1000000) (B : Nat) (w : World) (sv pv tv : Value) (hB : B ≤ w.heap.size) (hs : SIn (· < B) w s sv) (hp : SlIn (· < B) w p.args pv) (ht : SlIn (· < B) w t.args tv) (hpn : p.nm.size ≤ maxLen) (htn : t.nm.size ≤ maxLen) :
    Calls Tryz.prog 26 #[.agg #[.string p.nm, pv], .agg #[.string t.nm, tv], sv] w (MtR (matchP p t s) w) := by
  obtain ⟨i0, hi, hz0, hz1, hz2⟩ := info_parts infoB
  obtain ⟨p1, c1, rfl⟩ := hp.form
  obtain ⟨p2, c2, rfl⟩ := ht.form
  obtain ⟨W2, hW2⟩ : ∃ W2, W2 = (w.alloc (.cells #[.string p.nm, .slice p1 p.args.length c1] 27)).alloc (.cells #[.string t.nm, .slice p2 t.args.length c2] 27) := ⟨_, rfl⟩
  have G2 : Gr w W2 := by rw [hW2]; exact (Gr.alloc _ _).more _
  have H2 : Hid (Has W2 w.heap.size #[.string p.nm, .slice p1 p.args.length c1]) := Lib.hid (by rw [hW2]; exact (Has.new w _ _).alloc _)
  have T2 : Hid (Has W2 (w.heap.size + 1) #[.string t.nm, .slice p2 t.args.length c2]) := Lib.hid (by rw [hW2]; exact Has.new1 w _ _ _)
  have CV := Lib.hid (fun w' (k : Below w.heap.size w w') => cvalid_any s B w' sv (Nat.le_trans hB k.size) (hs.deep k hB))
  have CE := Lib.hid (fun (hv : vldS s = true) w' (k : Below w.heap.size w w') => ext_any p t s (vld_srt hv).1 (vld_srt hv).2 B w' sv _ _ (Nat.le_trans hB k.size) (hs.deep k hB) (hp.deep k hB) (ht.deep k hB) hpn htn)
  have CG := Lib.hid (fun w' (k : Below w.heap.size w w') => ground_any t B w' _ (Nat.le_trans hB k.size) htn (ht.deep k hB) hz)
  rw [ground_eq] at CG
  have MP : Hid (matchP p t s = if vldS s && validT true 4 t then extP true p t s else none) := Lib.hid rfl
  have KS := Lib.hid (fun s' (e : extP true p t s = some s') => ext_all (P := fun y => sizeT y.2 ≤ 1000000) (Q := fun t => sizeT t ≤ 1000000) (fun n l h x hx => by have := size_mem hx; simp only [sizeT] at h; omega) (fun v t _ h => h) true p t s s' e hsz hz)
  have KP := Lib.hid (fun (hv : vldS s = true) s' (e : extP true p t s = some s') => (ext_keeps true p t s s' (vld_srt hv).1 e).2.2.2 rfl (vld_srt hv).2)
  have GG := Lib.hid G2
  clear hs hp ht hpn htn hz hsz G2
  obtain ⟨vb, hvb⟩ : ∃ vb, vldS s = vb := ⟨_, rfl⟩
  rw [hvb] at CV MP CE KP
  generalize validT true 4 t = gb at *
  generalize p.nm = pn at *
  generalize p.args.length = pa at *
  generalize t.nm = tn at *
  generalize t.args.length = ta at *
  clear hvb
  obtain ⟨y1, y2, y3, y4, y5⟩ := H2.out.two
  unfold BndR at CE
  cases vb
  · clear CE CG KS KP
    go_enter Tryz.func26, Tryz.ntmps26
    go_upto_region 1 with fail
    rw [← hW2]
    clear hW2
    go_wp2_with fail
    refine (CV.out _ GG.out.1).mono ?_
    rintro e w3 ⟨rfl, g3⟩
    have D3 := Lib.hid (next0 GG.out.1 g3.1)
    go_wp2_with fail
    refine bodyPost_ret (v := .tuple #[.slice none 0 0, .bool false]) (by simp [results, Tryz.results26, go_sem]) rfl ?_
    unfold MtR
    exact ⟨_, false, rfl, (fun h => by cases h), (fun _ => ⟨by rw [MP.out]; simp, rfl⟩), D3.out⟩
  · go_enter Tryz.func26, Tryz.ntmps26
    go_upto_region 1 with fail
    rw [← hW2]
    clear hW2
    go_wp2_with fail
    refine (CV.out _ GG.out.1).mono ?_
    rintro e w3 ⟨rfl, g3⟩
    have D3 := Lib.hid (next0 GG.out.1 g3.1)
    have T3 := Lib.hid (T2.out.step0 g3.1)
    have H3 := Lib.hid (H2.out.step0 g3.1)
    clear y1 y2 y3 y4 y5 g3 T2 H2 CV
    obtain ⟨y1, y2, y3, y4, y5⟩ := H3.out.two
    obtain ⟨z1, z2, z3, z4, z5⟩ := T3.out.two
    go_wp2_with fail
    refine (CE.out trivial _ D3.out).mono ?_
    rintro e w4 ⟨v4, f, rfl, h1, h2, hb4⟩
    have D4 := Lib.hid (next0 D3.out hb4)
    have T4 := Lib.hid (T3.out.step0 hb4)
    clear y1 y2 y3 y4 y5 z1 z2 z3 z4 z5 hb4 T3 H3
    obtain ⟨z1, z2, z3, z4, z5⟩ := T4.out.two
    cases f
    · have E0 := Lib.hid (h2 rfl)
      clear h1 h2 KS KP
      go_wp2_with fail
      refine bodyPost_ret (v := .tuple #[.slice none 0 0, .bool false]) (by simp [results, Tryz.results26, go_sem]) rfl ?_
      unfold MtR
      exact ⟨_, false, rfl, (fun h => by cases h), (fun _ => ⟨by rw [MP.out, E0.out]; simp, rfl⟩), D4.out⟩
    · obtain ⟨s9, he, hI⟩ := h1 rfl
      have E9 := Lib.hid he
      have I9 := Lib.hid hI
      clear h1 h2 he hI
      go_wp2_with fail
      refine (CG.out _ D4.out).mono ?_
      rintro e w5 ⟨rfl, hb5⟩
      have D5 := Lib.hid (next0 D4.out hb5)
      cases gb
      · go_wp2_with fail
        refine bodyPost_ret (v := .tuple #[.slice none 0 0, .bool false]) (by simp [results, Tryz.results26, go_sem]) rfl ?_
        unfold MtR
        exact ⟨_, false, rfl, (fun h => by cases h), (fun _ => ⟨by rw [MP.out]; simp, rfl⟩), D5.out⟩
      · have EO : Hid (matchP p t s = some s9) := Lib.hid (by rw [MP.out, E9.out]; simp)
        have SZ := Lib.hid (KS.out s9 E9.out)
        have hm64 := KP.out trivial s9 E9.out
        obtain ⟨p9, c9, rfl, hc9, hm9, hR⟩ := SIn.row ((I9.out.deep hb5 (Nat.le_refl _)).wide (ok' := (· < w5.heap.size)) fun b hb => Nat.lt_of_lt_of_le hb hb5.size)
        have HR := Lib.hid hR
        clear hR hb5 CG CE MP KS KP T4 z1 z2 z3 z4 z5 E9
        generalize hsl : s9.length = m at *
        have HSL := Lib.hid hsl
        clear hsl
        obtain ⟨wm, M, O, G⟩ := run_make_full (P := Tryz.prog) w5 w5.heap.size 22 52 i0 _ 3 Tryz.underlying22 hi hz0 hz1 .i64 .i64 m (by rw [hz2]; omega) (by unfold maxLen; omega) (Nat.le_refl _)
        have O0 : Hid (wm.ownsRow w5.heap.size 52 3 (.slice (some ⟨w5.heap.size, 0, none⟩) m m) m (KB.flat [] ++ restB m)) := Lib.hid (by rw [madeb_rest] at O; exact O)
        have Bm := Lib.hid ((Below.refl w5.heap.size w5).grown G (Nat.le_refl _) (fun k h => by cases h))
        clear O G
        have CL := Lib.hid (fun (x : Bd) (hx : x ∈ s9) (w' : World) v (hB' : w5.heap.size ≤ w'.heap.size) (h : SlIn (· < w5.heap.size) w' x.2.args v) (hn : x.2.nm.size ≤ maxLen) => clone_any x.2 w5.heap.size w' v hB' h hn (SZ.out x hx))
        go_wp2_with fail
        go_loopw [35] (fun i wr => ∃ (k : Nat) (L : List (Bd × Value)), k ≤ m ∧ i = .int .i64 k ∧ Hid (L.map (·.1) = s9.take k) ∧ Hid (wr.ownsRow w5.heap.size 52 3 (.slice (some ⟨w5.heap.size, 0, none⟩) m m) m (KB.flat L ++ restB (m - k))) ∧ Hid (∀ x ∈ L, KB.inn (fun b => w5.heap.size < b ∧ b < wr.heap.size) wr x) ∧ Hid (Below w5.heap.size w5 wr) ∧ w5.heap.size < wr.heap.size) (fun i _ => m - (intOf i).toNat)
        case atStart => exact ⟨0, [], Nat.zero_le _, rfl, Lib.hid rfl, O0, Lib.hid (fun x hx => absurd hx (List.not_mem_nil)), Bm, (World.ownsRow.lt O0.out _ rfl).2⟩
        case round =>
          obtain ⟨k, L, hk, rfl, hL, hO, hI, hD, hsz⟩ := hrel
          have hLl : L.length = k := by
            have := congrArg List.length hL.out
            rw [List.length_map, List.length_take, HSL.out] at this
            omega
          by_cases hlt : k < m
          · obtain ⟨x, b, o, q, d, hx, rfl, hb, c1', c2', c3', hs, hts, htv⟩ := (RowS.deep HR.out hD.out (Nat.le_refl _)) k (by rw [HSL.out]; exact hlt)
            have TT := Lib.hid (take_get s9 k x hx)
            obtain ⟨W6, hW6⟩ : ∃ W6, W6 = wr.alloc (.cells #[.string x.1, .string x.2.nm, .slice q x.2.args.length d] 52) := ⟨_, rfl⟩
            have K6 : Hid (Below wr.heap.size wr W6) := Lib.hid (by rw [hW6]; exact below_alloc _ _)
            have T6 : Hid (Has W6 wr.heap.size #[.string x.1, .string x.2.nm, .slice q x.2.args.length d]) := Lib.hid (by rw [hW6]; exact Has.new _ _ _)
            have CI := Lib.hid (fun w' (g : Below wr.heap.size wr w') => CL.out x (List.mem_of_getElem? hx) w' _ (Nat.le_trans hD.out.size g.size) (hs.deep g hD.out.size) hts)
            have XV := Lib.hid htv
            have t1 := T6.out.cell 0
            have t2 := T6.out.cell 1
            have t3 := T6.out.cell 2
            simp only [List.getElem?_toArray, List.getElem?_cons_zero, List.getElem?_cons_succ] at t1 t2 t3
            obtain ⟨r1, r2, r3⟩ := restb_at L (m - k) (by omega)
            rw [hLl] at r1 r2 r3
            have R1 := Lib.hid r1
            have R2 := Lib.hid r2
            have R3 := Lib.hid r3
            have HZ6 : Hid (W6.heap.size = wr.heap.size + 1) := Lib.hid (by rw [hW6]; simp)
            have RW := Lib.hid (fun (w7 : World) (h7 : Below wr.heap.size wr w7) => by
              have O7 := own_bel hO.out h7 (fun g h => by cases h; exact hsz)
              exact And.intro ((O7.cellAt (k * 3) (by omega)).trans r1) (And.intro ((O7.cellAt (k * 3 + 1) (by omega)).trans r2) (And.intro ((O7.cellAt (k * 3 + 1 + 1) (by omega)).trans r3) (And.intro (O7.frozenAt (k * 3)) (And.intro (O7.frozenAt (k * 3 + 1)) (O7.frozenAt (k * 3 + 1 + 1)))))))
            have TF : Hid (∀ w7, Below W6.heap.size W6 w7 → w7.cell? ⟨wr.heap.size, 0, none⟩ = some (.string x.1)) := Lib.hid (fun w7 h => (T6.out.step0 h).cell 0)
            clear r1 r2 r3
            have FIN : Hid (∀ (w7 : World) (q7 : Option Addr) (d7 : Nat), Below wr.heap.size wr w7 → SlIn (fun b => wr.heap.size < b ∧ b < w7.heap.size) w7 x.2.args (.slice q7 x.2.args.length d7) → x.2.nm.size ≤ maxLen →
                ∀ w8, w8 = ((w7.setCell ⟨w5.heap.size, k * 3, none⟩ (.string x.1)).setCell ⟨w5.heap.size, k * 3 + 1, none⟩ (.string x.2.nm)).setCell ⟨w5.heap.size, k * 3 + 1 + 1, none⟩ (.slice q7 x.2.args.length d7) →
                Hid ((L ++ [(x, Value.slice q7 x.2.args.length d7)]).map (·.1) = s9.take (k + 1)) ∧ Hid (w8.ownsRow w5.heap.size 52 3 (.slice (some ⟨w5.heap.size, 0, none⟩) m m) m (KB.flat (L ++ [(x, Value.slice q7 x.2.args.length d7)]) ++ restB (m - (k + 1)))) ∧ Hid (∀ y ∈ L ++ [(x, Value.slice q7 x.2.args.length d7)], KB.inn (fun b => w5.heap.size < b ∧ b < w8.heap.size) w8 y) ∧ Hid (Below w5.heap.size w5 w8) ∧ w5.heap.size < w8.heap.size) := Lib.hid (by
              rintro w7 q7 d7 h7 hs7 hn7 w8 rfl
              have O7 := own_bel hO.out h7 (fun g h => by cases h; exact hsz)
              have ST1 := O7.stored (k * 3) (.string x.1)
              have ST2 := ST1.1.stored (k * 3 + 1) (.string x.2.nm)
              have ST3 := ST2.1.stored (k * 3 + 1 + 1) (.slice q7 x.2.args.length d7)
              have NX := restb_set L x (.slice q7 x.2.args.length d7) (m - k) (by omega)
              rw [hLl] at NX
              have FAR : ∀ b o, b ≠ w5.heap.size → (((w7.setCell ⟨w5.heap.size, k * 3, none⟩ (.string x.1)).setCell ⟨w5.heap.size, k * 3 + 1, none⟩ (.string x.2.nm)).setCell ⟨w5.heap.size, k * 3 + 1 + 1, none⟩ (.slice q7 x.2.args.length d7)).cell? ⟨b, o, none⟩ = w7.cell? ⟨b, o, none⟩ := fun b o hb => by rw [cell_far hb, cell_far hb, cell_far hb]
              have z7 := h7.size
              refine ⟨Lib.hid (by rw [List.map_append, hL.out, TT.out]; rfl), Lib.hid (by have := ST3.1; rw [NX] at this; rw [show m - (k + 1) = m - k - 1 by omega]; exact this), Lib.hid (fun y hy => ?_), Lib.hid ((((next0 hD.out (h7.mono (Nat.le_refl _))).setCell (Nat.le_refl _) _).setCell (Nat.le_refl _) _).setCell (Nat.le_refl _) _), by simp only [World.setCell, Array.size_modify]; omega⟩
              rcases List.mem_append.1 hy with hy | hy
              · have := KB.keep (hI.out y hy) (w' := w7) fun b o hb => h7.cell (p := ⟨b, o, none⟩) hb.2
                have := KB.keep this (fun b o hb => FAR b o (by omega))
                exact KB.wide this fun b hb => ⟨hb.1, by simp only [World.setCell, Array.size_modify]; omega⟩
              · obtain rfl := List.mem_singleton.1 hy
                have : KB.inn (fun b => wr.heap.size < b ∧ b < w7.heap.size) w7 (x, Value.slice q7 x.2.args.length d7) := ⟨hs7, hn7, XV.out⟩
                have := KB.keep this (fun b o hb => FAR b o (by omega))
                exact KB.wide this fun b hb => ⟨by omega, by simp only [World.setCell, Array.size_modify]; omega⟩)
            clear hs hts htv hx
            unfold RepR at CI
            generalize x.1 = xv at *
            generalize x.2.nm = xn at *
            generalize x.2.args.length = xa at *
            go_upto_region 10 with fail
            rw [← hW6]
            clear c1' c2' c3'
            clear hW6 R1 R2 R3
            go_region_law (first
              | (go_simp; go_at_call 42; (with_reducible refine (CI.out _ (by first | exact K6.out | exact K6.out.drew | exact below_drewN K6.out _)).mono ?_); rintro e w7 ⟨q7, d7, rfl, hS7, hn7, hb7⟩; have B7 : Below W6.heap.size W6 w7 := (by first | exact hb7 | exact next0 (Below.refl _ _).drew hb7 | exact next0 (below_drewN (Below.refl _ _) _) hb7); have D7 : Hid (Below wr.heap.size wr w7) := Lib.hid (next0 K6.out B7); have S7 := Lib.hid (hS7.weaken (ok' := fun b => wr.heap.size < b ∧ b < w7.heap.size) (fun b hb => ⟨by have := HZ6.out; have h6 : W6.heap.size ≤ b := hb.1; omega, hb.2⟩)); have N7 := Lib.hid hn7; obtain ⟨a1, a2, a3, a4, a5, a6⟩ := RW.out w7 D7.out; have a7 := TF.out w7 B7; clear hS7 hn7 hb7 B7))
            all_goals
              go_wp2_with fail
              go_roundw
              case rel => exact ⟨k + 1, _, by omega, by go_num, FIN.out w7 q7 d7 D7.out S7.out N7.out _ rfl⟩
              case measure => simp [intOf]; omega
          · obtain rfl : k = m := by omega
            have HL : Hid (L.map (·.1) = s9) := Lib.hid (by rw [hL.out, ← HSL.out]; simp)
            have OW := hO.out
            rw [Nat.sub_self, show restB 0 = [] from rfl, List.append_nil] at OW
            have S4 : Hid (SIn (· < wr.heap.size) wr s9 (.slice (some ⟨w5.heap.size, 0, none⟩) k k)) := Lib.hid (by
              rw [← HL.out]
              exact (sin_own hLl OW hI.out hsz).wide fun b hb => hb.2)
            clear OW
            go_wp2_with fail
            refine bodyPost_ret (v := .tuple #[.slice (some ⟨w5.heap.size, 0, none⟩) k k, .bool true]) (by simp [results, Tryz.results26, go_sem]) rfl ?_
            unfold MtR
            exact ⟨_, true, rfl, (fun _ => ⟨s9, EO.out, S4.out⟩), (fun h => by cases h), next0 D5.out hD.out⟩
end UniQ
end Go.Proofs.YtihbnonbhelbmaaGreatDoor
/- Unify of the code: what it answers is unifyP. Conditions: terms of at most a million parts and bytes, at most a million entries; the variable nameEnds holds its bytes; the library's sort of strings as a premise. -/
namespace Go.Proofs.YtihbnonbhelbmaaGreatDoor
open Go Go.RowKit Go.Maps Go.WideMaps
namespace UnmF
open LexM TermM TermI Kit TermN TermU TermL TermE TermF UniK UniM UniA UniG UniJ UniL UniR UniD UniH TermT UnmA UnmB UnmC UnmD UnmE
/-- What the library's sort of strings leaves. -/
def SortC : Prop := ∀ (base : Nat) (w : World) (v : Value) (vs : List ByteArray), w.ownsRow base 9 1 v vs.length (strs vs) → vs.length ≤ 1000000 → Calls Tryz.prog 55 #[v] w fun e w' => e = .returned (.tuple #[]) ∧ w'.ownsRow base 9 1 v vs.length (strs (sortB vs)) ∧ Below base w w'
theorem vars_var {xs : List ByteArray} : ∀ v ∈ varsOf xs, varB v = true := by
  have gen : ∀ (xs M : List ByteArray), (∀ x ∈ M, varB x = true) → ∀ x ∈ xs.foldl addV M, varB x = true := by
    intro xs
    induction xs with
    | nil => intro M hM; exact hM
    | cons a r ih =>
      intro M hM
      refine ih (addV M a) ?_
      intro x h
      unfold addV at h
      split at h
      · next hc =>
        rcases List.mem_append.1 h with h | h
        · exact hM x h
        · obtain rfl := List.mem_singleton.1 h; exact hc.1
      · exact hM x h
  exact gen xs [] (fun x h => by simp at h)
theorem var_ok {v : ByteArray} (h : varB v = true) : v.size ≤ 16 := by
  unfold varB varL at h
  simp only [Bool.and_eq_true, decide_eq_true_eq] at h
  exact h.1.1
theorem leaf_ok {v : ByteArray} (h : varB v = true) : Ok (.mk v []) := by
  have h1 := var_ok h
  have h2 : v.data.toList.length = v.size := rfl
  exact ⟨by simp only [Tm.nm, maxLen]; omega, by simp [textT]; omega, by simp [sizeT, sizeL]⟩
theorem sol_cons {D : Cls} {n : Nat} {v : ByteArray} {l : List ByteArray} {r : List Bd} (h : solP D n (v :: l) = some r) : ∃ t r', resP D n 4 (.mk v []) = some t ∧ solP D n l = some r' ∧ r = if eqB t.nm v = true then r' else (v, t) :: r' := by
  unfold solP at h
  cases h1 : resP D n 4 (.mk v []) with
  | none => rw [h1] at h; cases h
  | some t =>
    cases h2 : solP D n l with
    | none => rw [h1, h2] at h; cases h
    | some r' =>
      rw [h1, h2] at h
      cases h
      exact ⟨t, r', rfl, rfl, rfl⟩
theorem bd3 {n : Nat} (h : n ≤ 1000000) : n + 1 ≤ maxLen := by unfold maxLen; omega
theorem bd4 {n : Nat} (h : n ≤ 1000000) : (n + 1) * 56 ≤ 140737488355328 := by omega
set_option maxRecDepth 100000 in
set_option maxHeartbeats 6400000 in
theorem unify_any (SC : SortC) (n : Nat) (a b : Tm) (o : Option (List Bd)) (ho : unifyP n a b = some o) (oa : Ok a) (ob : Ok b) (hz : sizeT a + sizeT b ≤ 1000000) (hD : ∀ D r, joinP n [] a b = some (D, r) → D.length ≤ 1000000)
    (B : Nat) (w : World) (av bv : Value) (hw : Wd w) (hg : 0 < B) (hB : B ≤ w.heap.size) (ha : SlIn (· < B) w a.args av) (hb : SlIn (· < B) w b.args bv) :
    Calls Tryz.prog 29 #[.agg #[.string a.nm, av], .agg #[.string b.nm, bv]] w (MtR o w) := by
  obtain ⟨i0, hi, hz0, hz1, hz2⟩ := info_parts infoB
  obtain ⟨pa, ca, rfl⟩ := ha.form
  obtain ⟨pb, cb, rfl⟩ := hb.form
  obtain ⟨W2, hW2⟩ : ∃ W2, W2 = (w.alloc (.cells #[.string a.nm, .slice pa a.args.length ca] 27)).alloc (.cells #[.string b.nm, .slice pb b.args.length cb] 27) := ⟨_, rfl⟩
  have B2 : Hid (Below w.heap.size w W2) := Lib.hid (by rw [hW2]; exact ((Gr.alloc _ _).more _).1)
  have hs2 : w.heap.size + 2 ≤ W2.heap.size := by rw [hW2]; simp
  have H2 : Hid (Has W2 w.heap.size #[.string a.nm, .slice pa a.args.length ca]) := Lib.hid (by rw [hW2]; exact (Has.new w _ _).alloc _)
  have T2 : Hid (Has W2 (w.heap.size + 1) #[.string b.nm, .slice pb b.args.length cb]) := Lib.hid (by rw [hW2]; exact Has.new1 w _ _ _)
  have VA := Lib.hid (fun w' (k : Below w.heap.size w w') => TermV.valid_any a B w' _ (Nat.le_trans hB k.size) oa.1 (ha.deep k hB))
  have VB := Lib.hid (fun w' (k : Below w.heap.size w w') => TermV.valid_any b B w' _ (Nat.le_trans hB k.size) ob.1 (hb.deep k hB))
  have CJ := Lib.hid (fun D r (hj : joinP n [] a b = some (D, r)) w' (k : Below w.heap.size w w') => join_any n [] a b D r hj (hD D r hj) B w'.heap.size (w'.alloc (.map #[] 0)) _ _ (hw.below (next0 k (below_alloc _ _)) hw.1) hg (Nat.le_trans hB k.size) (Cl.made w' B) (ha.deep (next0 k (below_alloc _ _)) hB) (hb.deep (next0 k (below_alloc _ _)) hB) oa ob)
  have CV := Lib.hid (fun (w' : World) sv (B' : Nat) (h1 : B' ≤ w'.heap.size) (h : SlIn (· < B') w' [a, b] sv) => vars_any [a, b] B' w' sv h1 h (by simp only [sizeL]; omega))
  have SA := Lib.hid (fun w' (k : Below B w w') => And.intro (ha.deep k (Nat.le_refl _)) (hb.deep k (Nat.le_refl _)))
  have WW := Lib.hid (fun w' (k : Below B w w') => hw.below k hg)
  have HN := Lib.hid (And.intro oa.1 ob.1)
  have VV : Hid (∀ v ∈ sortB (varsOf (leavesL [a, b])), varB v = true) := Lib.hid (fun v h => vars_var v (sortB_mem h))
  have hvl : (varsOf (leavesL [a, b])).length ≤ 1000000 := by
    have h1 := varsOf_len (leavesL [a, b])
    have h2 := leavesL_len [a, b]
    simp only [sizeL] at h2
    omega
  have hvs := sortB_len (varsOf (leavesL [a, b]))
  have CS := Lib.hid (fun base w' v h => SC base w' v (varsOf (leavesL [a, b])) h hvl)
  have HB := Lib.hid hB
  have HG := Lib.hid hg
  have hmm := @run_makeMap Tryz.prog
  unfold unifyP at ho
  generalize sortB (varsOf (leavesL [a, b])) = vs at *
  generalize hvz : varsOf (leavesL [a, b]) = vz at *
  unfold Vrs at CV
  unfold JnR at CJ
  clear ha hb hw hz oa ob hD hB hg SC
  obtain ⟨va, hva⟩ : ∃ z, validT false 4 a = z := ⟨_, rfl⟩
  obtain ⟨vb, hvb⟩ : ∃ z, validT false 4 b = z := ⟨_, rfl⟩
  rw [hva] at VA ho
  rw [hvb] at VB ho
  clear hva hvb
  generalize hj : joinP n [] a b = oj at *
  clear hj
  generalize hna : a.nm = an at *
  generalize hal : a.args.length = al at *
  generalize hnb : b.nm = bn at *
  generalize hbl : b.args.length = bl at *
  have HNA := Lib.hid (And.intro hna hnb)
  clear hna hnb hal hbl
  obtain ⟨y1, y2, y3, y4, y5⟩ := H2.out.two
  go_enter Tryz.func29, Tryz.ntmps29
  go_upto_region 1 with fail
  rw [← hW2]
  clear hW2
  go_wp2_with fail
  refine (VA.out _ B2.out).mono ?_
  rintro e w3 ⟨rfl, g3⟩
  have D3 := Lib.hid (next0 B2.out g3.1)
  have H3 := Lib.hid (H2.out.step0 g3.1)
  have T3 := Lib.hid (T2.out.step0 g3.1)
  have hs3 : w.heap.size + 2 ≤ w3.heap.size := Nat.le_trans hs2 g3.1.size
  clear VA g3 H2 T2 B2 hs2 y1 y2 y3 y4 y5
  cases va
  · have e9 : o = none := by simpa using ho.symm
    subst e9
    go_wp2_with fail
    refine bodyPost_ret (v := .tuple #[.slice none 0 0, .bool false]) (by simp [results, Tryz.results29, go_sem]) rfl ?_
    unfold MtR
    exact ⟨_, false, rfl, (fun h => by cases h), (fun _ => ⟨rfl, rfl⟩), D3.out⟩
  obtain ⟨z1, z2, _⟩ := T3.out.two
  go_wp2_with fail
  refine (VB.out _ D3.out).mono ?_
  rintro e w4 ⟨rfl, g4⟩
  have D4 := Lib.hid (next0 D3.out g4.1)
  have H4 := Lib.hid (H3.out.step0 g4.1)
  have T4 := Lib.hid (T3.out.step0 g4.1)
  have hs4 : w.heap.size + 2 ≤ w4.heap.size := Nat.le_trans hs3 g4.1.size
  clear VB g4 H3 T3 D3 hs3 z1 z2
  cases vb
  · have e9 : o = none := by simpa using ho.symm
    subst e9
    go_wp2_with fail
    refine bodyPost_ret (v := .tuple #[.slice none 0 0, .bool false]) (by simp [results, Tryz.results29, go_sem]) rfl ?_
    unfold MtR
    exact ⟨_, false, rfl, (fun h => by cases h), (fun _ => ⟨rfl, rfl⟩), D4.out⟩
  rw [if_neg (by simp)] at ho
  obtain ⟨D, r, rfl⟩ : ∃ D r, oj = some (D, r) := by
    cases oj with
    | none => cases ho
    | some z => exact ⟨z.1, z.2, rfl⟩
  obtain ⟨W5, hW5⟩ : ∃ W5, W5 = w4.alloc (.map #[] 0) := ⟨_, rfl⟩
  have H5 : Hid (Has W5 w.heap.size #[.string an, .slice pa al ca]) := Lib.hid (by rw [hW5]; exact H4.out.alloc _)
  have T5 : Hid (Has W5 (w.heap.size + 1) #[.string bn, .slice pb bl cb]) := Lib.hid (by rw [hW5]; exact T4.out.alloc _)
  have CJ5 := Lib.hid (CJ.out D r rfl w4 D4.out)
  rw [← hW5] at CJ5
  have D5 : Hid (Below w.heap.size w W5) := Lib.hid (by rw [hW5]; exact next0 D4.out (below_alloc _ _))
  have hs5 : w4.heap.size < W5.heap.size := by rw [hW5]; simp
  obtain ⟨y1, y2, _⟩ := H5.out.two
  obtain ⟨z1, z2, _⟩ := T5.out.two
  clear CJ H4 T4
  go_upto_region 4 with fail
  rw [← hW5]
  clear hW5 hmm
  go_wp2_with fail
  refine CJ5.out.mono ?_
  rintro e w6 ⟨rfl, hC6, h6⟩
  have C6 := Lib.hid hC6
  have K6 := Lib.hid h6
  have D6 : Hid (Below w.heap.size w w6) := Lib.hid (D5.out.trans (h6.toBelow (by have := D4.out.size; omega) (by have := D5.out.size; omega)))
  have H6 := Lib.hid (h6.has H5.out (by omega))
  have T6 := Lib.hid (h6.has T5.out (by omega))
  have hs6 : w4.heap.size < w6.heap.size := Nat.lt_of_lt_of_le hs5 h6.size
  clear CJ5 hC6 h6 H5 T5 D5 K6 hs5 y1 y2 z1 z2
  cases r
  · have e9 : o = none := by simpa using ho.symm
    subst e9
    go_wp2_with fail
    refine bodyPost_ret (v := .tuple #[.slice none 0 0, .bool false]) (by simp [results, Tryz.results29, go_sem]) rfl ?_
    unfold MtR
    exact ⟨_, false, rfl, (fun h => by cases h), (fun _ => ⟨rfl, rfl⟩), D6.out⟩
  dsimp only at ho
  obtain ⟨s, hs, hos⟩ : ∃ s, solP D n vs = some s ∧ Hid (o = (if vldS s = true then some s else none)) := by
    cases h : solP D n vs with
    | none => rw [h] at ho; cases ho
    | some s => rw [h] at ho; cases ho; exact ⟨s, rfl, Lib.hid rfl⟩
  have HS := Lib.hid hs
  clear ho hs
  obtain ⟨y1, y2, _⟩ := H6.out.two
  obtain ⟨z1, z2, _⟩ := T6.out.two
  obtain ⟨W7, hW7⟩ : ∃ W7, W7 = w6.alloc (.cells #[.string an, .slice pa al ca, .string bn, .slice pb bl cb] 27) := ⟨_, rfl⟩
  have R7 : Hid (Has W7 w6.heap.size #[.string an, .slice pa al ca, .string bn, .slice pb bl cb]) := Lib.hid (by rw [hW7]; exact Has.new _ _ _)
  have K7 : Hid (Below w6.heap.size w6 W7) := Lib.hid (by rw [hW7]; exact below_alloc _ _)
  have hs7 : w6.heap.size + 1 = W7.heap.size := by rw [hW7]; simp
  have hB6 : B ≤ w6.heap.size := Nat.le_trans HB.out D6.out.size
  have CV7 := Lib.hid (CV.out W7 (.slice (some ⟨w6.heap.size, 0, none⟩) 2 2) (w6.heap.size + 1) (by omega) (by
    have D7 : Below B w W7 := (D6.out.mono HB.out).trans (K7.out.mono hB6)
    obtain ⟨s1, s2⟩ := SA.out W7 D7
    obtain ⟨n1, n2⟩ := HNA.out
    refine TermH.slin_of (B := B) (B' := w6.heap.size + 1) (g := w6.heap.size) (cap := 2) (L := [(a, .slice pa al ca), (b, .slice pb bl cb)]) (by omega) (by omega) (Nat.le_refl _) (by decide) (by have := R7.out; rw [← n1, ← n2] at this; exact this) ?_
    intro x hx
    rcases List.mem_cons.1 hx with rfl | hx
    · exact ⟨s1, by rw [n1]; exact HN.out.1⟩
    · obtain rfl := List.mem_singleton.1 hx
      exact ⟨s2, by rw [n2]; exact HN.out.2⟩))
  clear CV R7 SA H6 T6
  go_wp2_with fail
  rw [← hW7]
  clear hW7
  refine CV7.out.mono ?_
  rintro e w8 ⟨v8, base8, rfl, hO8, hb8, k8⟩
  obtain ⟨a9, c9, rfl⟩ := row_form hO8
  have K8 := Lib.hid (next0 K7.out k8)
  have hs8 : w6.heap.size ≤ w8.heap.size := K8.out.size
  have CS8 := Lib.hid (CS.out base8 w8 _ hO8)
  clear CV7 k8 K7 y1 y2 z1 z2 hO8 CS
  go_wp2_with fail
  refine CS8.out.mono ?_
  rintro e w9 ⟨rfl, hO9, k9⟩
  have O9 := Lib.hid hO9
  have K9 := Lib.hid (K8.out.trans (k9.mono (by omega)))
  have D9 := Lib.hid (next0 D6.out K9.out)
  have C9 := Lib.hid (C6.out.keep K9.out hB6)
  have hB9 : B ≤ w9.heap.size := Nat.le_trans hB6 K9.out.size
  have hp9 : 0 < w9.heap.size := by have := HG.out; omega
  clear CS8 hO9 k9 K8 C6 K9 D6
  generalize hmz : vz.length = m at *
  have CR := Lib.hid (fun (v u : ByteArray × Tm) (hv : varB v.1 = true) (hr : resP D n 4 (.mk v.1 []) = some u.2) w' (k : Below w9.heap.size w9 w') => (res_any D n 4 (by omega) (.mk v.1 []) u.2 hr B w4.heap.size w' (.slice none 0 0) (WW.out w' ((D9.out.mono HB.out).trans (k.mono hB9))) (Nat.le_trans hB9 k.size) (C9.out.keep k hB9) (SlIn.none _ _) (leaf_ok hv) : Calls Tryz.prog 56 #[.map (some w4.heap.size), .agg #[.string v.1, .slice none 0 0], .int .i64 4] w' (RApR 0 u.2 w')))
  have HVM := Lib.hid hvs
  clear hvs hmz hvz
  unfold RApR at CR
  go_wp2_with fail
  go_loopw [8, 34] (fun v i wr => ∃ (k : Nat) (L : List (Bd × Value)), k ≤ m ∧ i = .int .i64 k ∧ Hid (∃ r, solP D n (vs.drop k) = some r ∧ L.map (·.1) ++ r = s) ∧ Hid (OwnG KB w9.heap.size wr L v) ∧ L.length ≤ k ∧ Hid (Below w9.heap.size w9 wr)) (fun _ i _ => m - (intOf i).toNat)
  case atStart => exact ⟨0, [], Nat.zero_le _, rfl, Lib.hid ⟨s, HS.out, rfl⟩, Lib.hid (OwnG.nil _ _), Nat.le_refl _, Lib.hid (Below.refl _ _)⟩
  case round =>
    obtain ⟨k, L, hk, rfl, hE, hO, hL, hK⟩ := hrel
    obtain ⟨va, vc, rfl⟩ := hO.out.form
    by_cases hlt : k < m
    · obtain ⟨v0, hv0⟩ : ∃ v0, vs[k]? = some v0 := ⟨vs[k]'(by rw [HVM.out]; exact hlt), by simp⟩
      obtain ⟨r, hr, hrs⟩ := hE.out
      rw [TermQ.drop_get hv0] at hr
      obtain ⟨u, r', hu, hr', rfl⟩ := sol_cons hr
      have OR : wr.ownsRow base8 9 1 (.slice a9 m c9) vs.length (strs vs) := by
        have := own_below (w' := wr) O9.out hK.out
        rw [HVM.out]
        exact this
      obtain ⟨g, cap, hav, hcell, hgb, hgl⟩ := row_str OR hv0
      injection hav with hav1 hav3 hav2
      subst hav1 hav2
      clear hav3
      have hvv := VV.out v0 (List.mem_of_getElem? hv0)
      have hv16 := var_ok hvv
      have CR0 := Lib.hid (fun w' (k : Below w9.heap.size w9 w') => CR.out (v0, .mk v0 []) (v0, u) hvv hu w' k)
      have E0 := Lib.hid hr'
      have E1 := Lib.hid hrs
      have CLf := Lib.hid (fun w' => leaf_nil v0 w')
      have hOl := Lib.hid hO.out.1.lt
      have A1 := bd3 (show L.length ≤ 1000000 by omega)
      have A2 := bd4 (show L.length ≤ 1000000 by omega)
      clear hv0 hr hu hr' hrs OR hE hvv
      go_wp2_with fail
      refine (CLf.out _).mono ?_
      rintro e w10 ⟨rfl, k10⟩
      have K10 := Lib.hid (next0 hK.out k10)
      have O10 := Lib.hid (hO.out.ch (r := 0) (Ch.of k10) hp9)
      have hs10 : wr.heap.size ≤ w10.heap.size := k10.size
      clear hcell k10 CLf hO
      go_wp2_with fail
      refine (CR0.out _ K10.out).mono ?_
      rintro e w11 ⟨q, d, rfl, hS, hnu, k11⟩
      have K11 := Lib.hid (next0 K10.out k11)
      have O11 := Lib.hid (O10.out.ch (r := 0) (Ch.of k11) hp9)
      have hs11 : w10.heap.size ≤ w11.heap.size := k11.size
      have S11 := Lib.hid (hS.weaken (ok' := fun b => w10.heap.size ≤ b ∧ b < w11.heap.size) (fun b hb => by have := hb; omega))
      have NU := Lib.hid hnu
      clear hS hnu k11 CR0 K10 O10
      obtain ⟨W12, hW12⟩ : ∃ W12, W12 = w11.alloc (.cells #[.string u.nm, .slice q u.args.length d] 27) := ⟨_, rfl⟩
      have K12 : Hid (Below w9.heap.size w9 W12) := Lib.hid (by rw [hW12]; exact next0 K11.out (below_alloc _ _))
      have O12 : Hid (OwnG KB w9.heap.size W12 L (.slice va L.length vc)) := Lib.hid (by rw [hW12]; exact O11.out.ch (r := 0) (Ch.of (below_alloc _ _)) hp9)
      have S12 : Hid (SlIn (fun b => w10.heap.size ≤ b ∧ b < W12.heap.size) W12 u.args (.slice q u.args.length d)) := Lib.hid (by
        rw [hW12]
        exact (S11.out.frame (w' := w11.alloc (.cells #[.string u.nm, .slice q u.args.length d] 27)) fun b o hb => (below_alloc w11 _).cell (p := ⟨b, o, none⟩) hb.2).weaken fun b hb => ⟨hb.1, by simp; omega⟩)
      have hs12 : w11.heap.size + 1 = W12.heap.size := by rw [hW12]; simp
      obtain ⟨u1, u2, _⟩ := (show Has W12 w11.heap.size #[.string u.nm, .slice q u.args.length d] by rw [hW12]; exact Has.new _ _ _).two
      obtain ⟨z, hz⟩ : ∃ z, (u.nm.toList == v0.toList) = z := ⟨_, rfl⟩
      have EZ : Hid (eqB u.nm v0 = z) := Lib.hid (by unfold eqB; rw [← hz, ByteArray.toList_eq, ByteArray.toList_eq])
      have h9r : w9.heap.size ≤ wr.heap.size := hK.out.size
      have hzb : w9.heap.size ≤ (W12.alloc (.cells #[.string v0, .string u.nm, .slice q u.args.length d] 52)).heap.size := by simp; omega
      clear K11 O11 S11 hK
      cases z
      · have e1 := E1.out
        rw [EZ.out, if_neg (by simp)] at e1
        have E2 : Hid ((L ++ [((v0, u), Value.slice q u.args.length d)]).map (·.1) ++ r' = s) := Lib.hid (by rw [List.map_append, List.append_assoc]; exact e1)
        have KI : Hid (KB.inn (fun b => w10.heap.size ≤ b ∧ b < W12.heap.size) W12 ((v0, u), Value.slice q u.args.length d)) := Lib.hid ⟨S12.out, NU.out, by unfold maxLen; show v0.size ≤ _; omega⟩
        clear e1 E1 S12
        generalize hun : u.nm = un at *
        have HUN := Lib.hid hun
        clear hun
        generalize hul : u.args.length = ul at *
        clear hul
        go_upto_region 13 with fail
        rw [← hW12]
        clear hW12
        go_wp2_with (at_builtin; refine wpList_append_lies _ rfl _ _ 22 rfl w9.heap.size 52 i0 zB 3 56 Tryz.underlying22 hi hz0 hz1 hz2 rfl (by decide) (.slice va L.length vc) L.length (KB.flat L) rfl (O12.out.1.alloc _) ⟨W12.heap.size, 0, none⟩ 1 1 [.string v0, .string un, .slice q ul d] rfl rfl (newsK _ _ _ _ _) (one_B _ _ _ _ _) (by decide) A1 A2 hzb (W12.heap.size + 1) (by simp) ?_; intro g5 cap5 w13 hown hgrow hat hlt5)
        have HA := OwnG.add (lo := w10.heap.size) (x := ((v0, u), Value.slice q ul d)) (K := KB) O12.out KI.out (by omega) (fun k hk => by have := (hOl.out k hk).2; omega) (by have e := HUN.out; rw [← e] at hown; exact hown) hgrow hat
        have K13 := Lib.hid ((K12.out.alloc (by exact K12.out.size) _).grown hgrow (by have := K12.out.size; simp; omega) (fun k hk => by have := (hOl.out k hk).1; omega))
        have O13 := Lib.hid HA
        have LL : (L ++ [((v0, u), Value.slice q ul d)]).length ≤ k + 1 := by simp; omega
        clear HA hown hgrow hat KI O12
        go_wp2_with fail
        go_roundw
        case rel => (repeat (refine Exists.intro _ ?_)); first | exact ⟨k + 1, _, by omega, by go_num, Lib.hid ⟨r', E0.out, E2.out⟩, O13, LL, K13⟩ | (refine ⟨?_, rfl⟩; exact ⟨k + 1, _, by omega, by go_num, Lib.hid ⟨r', E0.out, E2.out⟩, O13, LL, K13⟩)
        case measure => simp [intOf]; omega
      · have e1 := E1.out
        rw [EZ.out, if_pos rfl] at e1
        have E2 := Lib.hid e1
        clear e1 E1 S12 NU
        generalize u.nm = un at *
        generalize u.args.length = ul at *
        go_upto_region 13 with fail
        rw [← hW12]
        clear hW12
        go_wp2_with fail
        go_roundw
        case rel => (repeat (refine Exists.intro _ ?_)); first | exact ⟨k + 1, L, by omega, by go_num, Lib.hid ⟨r', E0.out, E2.out⟩, O12, by omega, K12⟩ | (refine ⟨?_, rfl⟩; exact ⟨k + 1, L, by omega, by go_num, Lib.hid ⟨r', E0.out, E2.out⟩, O12, by omega, K12⟩)
        case measure => simp [intOf]; omega
    · obtain rfl : k = m := by omega
      have hLs : L.map (·.1) = s := by
        obtain ⟨r, hr, hrs⟩ := hE.out
        rw [← HVM.out, List.drop_length] at hr
        cases hr
        simpa using hrs
      have SI : Hid (SIn (· < wr.heap.size) wr s (.slice va L.length vc)) := Lib.hid ⟨L, hLs, (hO.out.row).wide fun b hb => hb.2⟩
      have CW := Lib.hid (cvalid_any s wr.heap.size wr _ (Nat.le_refl _) SI.out)
      have KW := Lib.hid (next0 D9.out hK.out)
      clear hE hO hLs
      obtain ⟨z, hz⟩ : ∃ z, vldS s = z := ⟨_, rfl⟩
      rw [hz] at CW hos
      clear hz
      go_wp2_with fail
      refine CW.out.mono ?_
      rintro e w14 ⟨rfl, g14⟩
      have S14 := Lib.hid ((SI.out.gr g14 (Nat.le_refl _)).wide (ok' := (· < w14.heap.size)) fun b hb => Nat.lt_of_lt_of_le hb g14.size)
      have K14 := Lib.hid (next0 KW.out g14.1)
      clear g14 CW SI
      cases z
      · go_wp2_with fail
        refine bodyPost_ret (v := .tuple #[.slice none 0 0, .bool false]) (by simp [results, Tryz.results29, go_sem]) rfl ?_
        unfold MtR
        exact ⟨_, false, rfl, (fun h => by cases h), (fun _ => ⟨by have := hos.out; simpa using this, rfl⟩), K14.out⟩
      · go_wp2_with fail
        refine bodyPost_ret (v := .tuple #[.slice va L.length vc, .bool true]) (by simp [results, Tryz.results29, go_sem]) rfl ?_
        unfold MtR
        exact ⟨_, true, rfl, (fun _ => ⟨s, by have := hos.out; simpa using this, S14.out⟩), (fun h => by cases h), K14.out⟩
end UnmF
end Go.Proofs.YtihbnonbhelbmaaGreatDoor
/- The library's sort of strings, and the variables of a rule without a body. Condition: at most a million parts. -/
namespace Go.Proofs.YtihbnonbhelbmaaGreatDoor
open Go Go.RowKit Go.Maps Go.WideMaps
namespace UnmG
open LexM TermM TermI Kit TermN TermU TermL TermE TermF UniK UniM UniD UnmE UnmF
theorem sort_nil : sortB [] = [] := by simp [sortB, lists, bytesOf]
theorem sortc : SortC := by
  intro base w v vs hown hl
  have h0 := hown
  rcases hown.2 with ⟨rfl, hz⟩ | ⟨g, cap, cur, rfl, e2, e3, e4, e5, e6, e7⟩
  · have hv : vs = [] := List.eq_nil_of_length_eq_zero hz
    subst hv
    refine (Tryz.slices_Sort_string_none none 0 w).mono ?_
    rintro e w' ⟨rfl, rfl⟩
    exact ⟨rfl, by rw [sort_nil]; exact h0, Below.refl _ _⟩
  · have hg := (h0.lt g rfl).2
    have hll : (lists vs).length = vs.length := by simp [lists]
    have hH : Go.Sort.Holds encStr w g 0 (lists vs).toArray := by
      intro j hj
      have hj' : j < vs.length := by simpa [lists] using hj
      refine ⟨?_, h0.frozenAt _⟩
      rw [Nat.zero_add, h0.cellAt j (by omega)]
      have e9 : (lists vs).toArray[j]! = vs[j].data.toList := by
        rw [getElem!_pos _ j (by simpa using hj)]
        simp [lists]
      rw [e9]
      simp [strs, encStr, hj']
    have C := Tryz.slices_Sort_string g 0 cap (lists vs) w hH hg (by omega)
    rw [hll] at C
    refine C.mono ?_
    rintro e w' ⟨rfl, n, os, rfl⟩
    have hsl : ((lists vs).mergeSort fun x y => decide (x ≤ y)).length = vs.length := by simp [lists]
    have P := put_row (ls := (lists vs).mergeSort fun x y => decide (x ≤ y)) (by rw [hsl]; exact h0) n os
    rw [hsl] at P
    refine ⟨rfl, ?_, P.2⟩
    rw [show strs (sortB vs) = ((lists vs).mergeSort fun x y => decide (x ≤ y)).map encStr from strs_bytes _]
    exact P.1
set_option maxRecDepth 100000 in
set_option maxHeartbeats 800000 in
theorem rvars_nil (h : Tm) (B : Nat) (w : World) (hv : Value) (hB : B ≤ w.heap.size) (hs : SlIn (· < B) w h.args hv) (hn : h.nm.size ≤ maxLen) (hz : sizeT h ≤ 900000) :
    Calls Tryz.prog 62 #[.agg #[.string h.nm, hv, .slice none 0 0]] w (Vrs (varsOf (leavesL [h])) w) := by
  obtain ⟨p, c, rfl⟩ := hs.form
  obtain ⟨W1, hW1⟩ : ∃ W1, W1 = w.alloc (.cells #[.string h.nm, .slice p h.args.length c, .slice none 0 0] 34) := ⟨_, rfl⟩
  have R1 : Hid (Has W1 w.heap.size #[.string h.nm, .slice p h.args.length c, .slice none 0 0]) := Lib.hid (by rw [hW1]; exact Has.new _ _ _)
  have K1 : Hid (Below w.heap.size w W1) := Lib.hid (by rw [hW1]; exact below_alloc _ _)
  obtain ⟨W2, hW2⟩ : ∃ W2, W2 = W1.alloc (.cells #[.string h.nm, .slice p h.args.length c] 27) := ⟨_, rfl⟩
  have R2 : Hid (Has W2 W1.heap.size #[.string h.nm, .slice p h.args.length c]) := Lib.hid (by rw [hW2]; exact Has.new _ _ _)
  have K2 : Hid (Below w.heap.size w W2) := Lib.hid (by rw [hW2]; exact next0 K1.out (below_alloc _ _))
  have R12 : Hid (Has W2 w.heap.size #[.string h.nm, .slice p h.args.length c, .slice none 0 0]) := Lib.hid (by rw [hW2]; exact R1.out.alloc _)
  have hs1 : w.heap.size + 1 = W1.heap.size := by rw [hW1]; simp
  have hs2 : W1.heap.size + 1 = W2.heap.size := by rw [hW2]; simp
  have SL := TermH.slin_of (B := B) (B' := W1.heap.size + 1) (L := [(h, .slice p h.args.length c)]) (by omega) (by omega) (Nat.le_refl _) (by unfold maxLen; simp) R2.out (fun x hx => by
    obtain rfl := List.mem_singleton.1 hx
    exact ⟨hs.deep K2.out hB, hn⟩)
  have CV := Lib.hid (fun w' (k : Below W2.heap.size W2 w') => vars_any [h] (W1.heap.size + 1) w' (.slice (some ⟨W1.heap.size, 0, none⟩) 1 1) (by have := k.size; omega) (SL.deep k (by omega)) (by simp only [sizeL]; omega))
  clear hs hn hz R2 SL
  generalize varsOf (leavesL [h]) = vz at *
  unfold Vrs at CV ⊢
  generalize h.nm = hnm at *
  generalize h.args.length = hl at *
  obtain ⟨y1, y2, y3⟩ := UniA.three R1.out
  go_enter Tryz.func62, Tryz.ntmps62
  go_upto_region 1 with fail
  rw [← hW1]
  clear hW1
  go_upto_region 2 with fail
  rw [← hW2]
  clear hW2 y1 y2 y3
  obtain ⟨y1, y2, y3⟩ := UniA.three R12.out
  go_wp2_with fail
  go_loopw [3, 12] (fun v i wr => ∃ k : Nat, k ≤ 0 ∧ i = .int .i64 k ∧ v = .slice (some ⟨W1.heap.size, 0, none⟩) 1 1 ∧ Hid (Below W2.heap.size W2 wr)) (fun _ i _ => 0 - (intOf i).toNat)
  case atStart => exact ⟨0, Nat.le_refl _, rfl, rfl, Lib.hid (Below.refl _ _)⟩
  case round =>
    obtain ⟨k, hk, rfl, rfl, hK⟩ := hrel
    have hk0 : ¬ ((k : Int) < 0) := by omega
    go_wp2_with fail
    refine (CV.out _ hK.out).mono ?_
    rintro e w3 ⟨v', base, rfl, h1, h2, h3⟩
    have H1 := Lib.hid h1
    have K3 := Lib.hid (next0 (next0 K2.out hK.out) h3)
    have hsr := hK.out.size
    clear h1 h3
    go_wp2_with fail
    go_ret
    exact ⟨_, base, rfl, H1.out, by omega, K3.out⟩
end UnmG
end Go.Proofs.YtihbnonbhelbmaaGreatDoor
/- The code's Apply. Conditions: the substitution's names ascend; terms of at most a million parts. Made by genunid.py. -/
namespace Go.Proofs.YtihbnonbhelbmaaGreatDoor
open Go Go.RowKit
namespace UniF
open LexM TermM TermI Kit TermN TermU UniK UniM UniA UniC UniD UniE
set_option maxRecDepth 100000 in
set_option maxHeartbeats 6400000 in
theorem replace_any (g : Nat) (φ : ByteArray → Tm) (t : Tm) : ∀ (B : Nat) (w : World) (sv : Value), B ≤ w.heap.size → SlIn (· < B) w t.args sv → t.nm.size ≤ maxLen → sizeT t ≤ 1000000 →
    (∀ (w' : World) (n : ByteArray), Below w.heap.size w w' → n.size ≤ maxLen → Calls Tryz.prog 79 #[.string n, .pointer (some ⟨g, 0, none⟩)] w' (RepR (φ n) w')) →
    Calls Tryz.prog 45 #[.agg #[.string t.nm, sv], .func (.func 79) #[] #[.pointer (some ⟨g, 0, none⟩)]] w (RepR (repT φ t) w) := by
  obtain ⟨i0, hi, hz0, hz1, hz2⟩ := info_parts Tryz.info28
  induction t using Tm.ind with
  | h n l ih =>
    intro B w sv hB h hnm hz HF
    dsimp only [Tm.args, Tm.nm] at h hnm ⊢
    obtain ⟨p, c, rfl, hn, hc, hm, hR⟩ := h.row
    have hls := len_size l
    simp only [sizeT] at hz
    obtain ⟨W2, hW2⟩ : ∃ W2, W2 = (w.alloc (.cells #[.string n, .slice p l.length c] 27)).alloc (.cells #[.string ⟨#[]⟩, .slice none 0 0] 27) := ⟨_, rfl⟩
    have G2 : Gr w W2 := by rw [hW2]; exact (Gr.alloc _ _).more _
    have hz2w : w.heap.size + 2 ≤ W2.heap.size := by rw [hW2]; simp
    have H2 : Hid (Has W2 w.heap.size #[.string n, .slice p l.length c]) := Lib.hid (by rw [hW2]; exact (Has.new w _ _).alloc _)
    have E2 : Hid (Has W2 (w.heap.size + 1) #[.string ⟨#[]⟩, .slice none 0 0]) := Lib.hid (by rw [hW2]; exact Has.new1 w _ _ _)
    have hmf := @hmf0
    by_cases h0 : l = []
    · subst h0
      have e1 : repT φ (.mk n []) = φ n := by simp [repT]
      rw [e1]
      have CF := Lib.hid (HF W2 n G2.1 hnm)
      clear ih hR h hz HF hls
      generalize φ n = u at *
      unfold RepR at CF ⊢
      simp only [List.length_nil] at hW2 H2
      go_enter Tryz.func45, Tryz.ntmps45
      go_upto_region 1 with fail
      rw [← hW2]
      clear hW2
      obtain ⟨x1, x2, x3, x4, x5⟩ := H2.out.two
      go_wp2_with fail
      refine CF.out.mono ?_
      rintro e w3 ⟨q, d, rfl, hS, hnu, hb⟩
      have B3 := Lib.hid (next0 G2.1 hb)
      obtain ⟨y1, y2, y3, y4, y5⟩ := (E2.out.step0 hb).two
      have r1 := (E2.out.step0 hb).put0 (.string u.nm) (.slice q u.args.length d)
      have r2 := (E2.out.step0 hb).put1 (.string u.nm) (.slice q u.args.length d)
      have S4 := Lib.hid (((hS.weaken (ok' := fun b => W2.heap.size ≤ b ∧ b < w3.heap.size) (fun b hb => hb)).frame (w' := (w3.setCell ⟨w.heap.size + 1, 0, none⟩ (.string u.nm)).setCell ⟨w.heap.size + 1, 1, none⟩ (.slice q u.args.length d)) (fun b o hb => by
        rw [cell_far (by show b ≠ w.heap.size + 1; omega), cell_far (by show b ≠ w.heap.size + 1; omega)])))
      have D4 := Lib.hid ((B3.out.setCell (p := ⟨w.heap.size + 1, 0, none⟩) (by simp) (.string u.nm)).setCell (p := ⟨w.heap.size + 1, 1, none⟩) (by simp) (.slice q u.args.length d))
      have HNU := Lib.hid hnu
      clear hS hb B3 hnu CF x1 x2 x3 x4
      go_wp2_with fail
      refine bodyPost_ret (v := .agg #[.string u.nm, .slice q u.args.length d]) (by simp [results, Tryz.results45, go_sem, y1, y2]) rfl ?_
      exact ⟨q, d, rfl, S4.out.weaken (fun b hb => ⟨by omega, by simpa [World.setCell] using hb.2⟩), HNU.out, D4.out⟩
    · have hne : l.isEmpty = false := by cases l <;> simp_all
      have e1 : repT φ (.mk n l) = .mk n (l.map (repT φ)) := by rw [repT, if_neg (by simp [hne]), repL_map]
      rw [e1]
      have hlp : 0 < l.length := List.length_pos_iff.2 h0
      obtain ⟨wm, M, O, G⟩ := run_make_full (P := Tryz.prog) W2 W2.heap.size 25 27 i0 _ 2 Tryz.underlying25 hi hz0 hz1 .i64 .i64 l.length (by rw [hz2]; omega) (by unfold maxLen; omega) (Nat.le_refl _)
      have O0 : Hid (wm.ownsRow W2.heap.size 27 2 (.slice (some ⟨W2.heap.size, 0, none⟩) l.length l.length) l.length (flatL [] ++ restL l.length)) := Lib.hid (by rw [made_rest] at O; exact O)
      have Bm := Lib.hid (next0 G2.1 ((Below.refl W2.heap.size W2).grown G (Nat.le_refl _) (fun k h => by cases h)))
      have Hm := Lib.hid (Has.grown H2.out G (by simp))
      have Em := Lib.hid (Has.grown E2.out G (by simp))
      have IH : Hid (∀ t ∈ l, ∀ (w' : World) (v : Value), Below w.heap.size w w' → SlIn (· < B) w' t.args v → t.nm.size ≤ maxLen → Calls Tryz.prog 45 #[.agg #[.string t.nm, v], .func (.func 79) #[] #[.pointer (some ⟨g, 0, none⟩)]] w' (RepR (repT φ t) w')) :=
        Lib.hid (fun t hk w' v hb h hn => ih t hk B w' v (Nat.le_trans hB hb.size) h hn (by have := size_mem hk; omega) (fun w2 n2 hb2 hn2 => HF w2 n2 (next0 hb hb2) hn2))
      have TK : Hid (∀ k t, l[k]? = some t → (l.take (k + 1)).map (repT φ) = (l.take k).map (repT φ) ++ [repT φ t]) := Lib.hid (fun k t h => by rw [take_get l k t h]; simp)
      have FT : Hid ((l.take l.length).map (repT φ) = l.map (repT φ)) := Lib.hid (by simp)
      have HB := Lib.hid hB
      have HR := Lib.hid hR
      have HNM := Lib.hid hnm
      have hlb : l.length ≤ 1000000 := by omega
      have ll : Hid ((l.map (repT φ)).length = l.length) := Lib.hid (by simp)
      unfold RepR
      dsimp only [Tm.nm, Tm.args]
      rw [ll.out]
      generalize hm' : l.length = m at *
      have HM := Lib.hid hm'
      clear ih hR h hm' hn hls hz HF O G ll
      have hm0 : ((m : Int) == 0) = false := by rw [beq_eq_false_iff_ne]; omega
      go_enter Tryz.func45, Tryz.ntmps45
      go_upto_region 1 with fail
      rw [← hW2]
      clear hW2
      obtain ⟨x1, x2, x3, x4, x5⟩ := H2.out.two
      go_upto_region 3 with fail
      go_upto_region 4 with fail
      clear x1 x2 x3 x4 x5
      obtain ⟨x1, x2, x3, x4, x5⟩ := Hm.out.two
      go_wp2_with fail
      go_loopw [23] (fun i wr => ∃ (k : Nat) (L : List (Tm × Value)), k ≤ m ∧ i = .int .i64 k ∧ Hid (L.map (·.1) = (l.take k).map (repT φ)) ∧ Hid (wr.ownsRow W2.heap.size 27 2 (.slice (some ⟨W2.heap.size, 0, none⟩) m m) m (flatL L ++ restL (m - k))) ∧ Hid (∀ x ∈ L, SlIn (fun b => W2.heap.size < b ∧ b < wr.heap.size) wr x.1.args x.2 ∧ x.1.nm.size ≤ maxLen) ∧ Hid (Has wr w.heap.size #[.string n, .slice p m c]) ∧ Hid (Has wr (w.heap.size + 1) #[.string ⟨#[]⟩, .slice none 0 0]) ∧ Hid (Below w.heap.size w wr) ∧ W2.heap.size < wr.heap.size) (fun i _ => m - (intOf i).toNat)
      case atStart => exact ⟨0, [], Nat.zero_le _, rfl, Lib.hid rfl, O0, Lib.hid (fun x hx => absurd hx (List.not_mem_nil)), Hm, Em, Bm, (World.ownsRow.lt O0.out _ rfl).2⟩
      case round =>
        obtain ⟨k, L, hk, rfl, hL, hO, hI, hH, hE, hD, hsz⟩ := hrel
        have hLl : L.length = k := by
          have := congrArg List.length hL.out
          rw [List.length_map, List.length_map, List.length_take, HM.out] at this
          omega
        by_cases hlt : k < m
        · obtain ⟨t, b, o, q, d, ht, rfl, hb, c1, c2, hs, hts⟩ := (Row.deep HR.out hD.out HB.out) k (by rw [HM.out]; exact hlt)
          have TT := Lib.hid (TK.out k t ht)
          obtain ⟨W4, hW4⟩ : ∃ W4, W4 = wr.alloc (.cells #[.string t.nm, .slice q t.args.length d] 27) := ⟨_, rfl⟩
          have D4 : Below w.heap.size w W4 := by rw [hW4]; exact next0 hD.out (below_alloc _ _)
          have k4 : Below wr.heap.size wr W4 := by rw [hW4]; exact below_alloc _ _
          have hz4 : W4.heap.size = wr.heap.size + 1 := by rw [hW4]; simp
          obtain ⟨y1, y2, _⟩ := (show Has W4 wr.heap.size #[.string t.nm, .slice q t.args.length d] by rw [hW4]; exact Has.new _ _ _).two
          have CI := Lib.hid (IH.out t (List.mem_of_getElem? ht) W4 _ D4 (hs.deep k4 (Nat.le_trans HB.out hD.out.size)) hts)
          have DD := Lib.hid D4
          have KK4 := Lib.hid k4
          clear hs hts ht D4 k4
          generalize t.nm = tn at *
          generalize t.args.length = ta at *
          generalize repT φ t = u at *
          unfold RepR at CI
          go_upto_region 7 with fail
          rw [← hW4]
          clear hW4 c1 c2
          go_wp2_with fail
          refine CI.out.mono ?_
          rintro e w5 ⟨q5, d5, rfl, hS5, hn5, hb5⟩
          have B5 := Lib.hid (next0 DD.out hb5)
          have K5 := Lib.hid (next0 KK4.out hb5)
          have O5 := Lib.hid (own_bel hO.out K5.out (fun g h => by cases h; exact hsz))
          have HO5 := Lib.hid (Has.step0 hH.out K5.out)
          have E5 := Lib.hid (Has.step0 hE.out K5.out)
          have I5 : Hid (∀ x ∈ L, SlIn (fun b => W2.heap.size < b ∧ b < w5.heap.size) w5 x.1.args x.2 ∧ x.1.nm.size ≤ maxLen) := Lib.hid (fun x hx => ⟨((hI.out x hx).1.frame fun b o hb => K5.out.cell (p := ⟨b, o, none⟩) hb.2).weaken fun b hb => ⟨hb.1, Nat.lt_of_lt_of_le hb.2 K5.out.size⟩, (hI.out x hx).2⟩)
          have S5 := Lib.hid hS5
          have N5 := Lib.hid hn5
          have hz5 : wr.heap.size + 1 ≤ w5.heap.size := by have := hb5.size; omega
          clear hS5 hn5 hb5 CI y1 y2 DD
          obtain ⟨r1, r2⟩ := rest_at L (m - k) (by omega)
          rw [hLl] at r1 r2
          have z1 := (O5.out.cellAt (k * 2) (by omega)).trans r1
          have z2 := (O5.out.cellAt (k * 2 + 1) (by omega)).trans r2
          have f1 := O5.out.frozenAt (k * 2)
          have f2 := O5.out.frozenAt (k * 2 + 1)
          have ST1 := Lib.hid (O5.out.stored (k * 2) (.string u.nm))
          have ST2 := Lib.hid (ST1.out.1.stored (k * 2 + 1) (.slice q5 u.args.length d5))
          have hgb : W2.heap.size < w5.heap.size := by omega
          have NX := Lib.hid (rest_set L u (.slice q5 u.args.length d5) (m - k) (by omega))
          rw [hLl] at NX
          clear r1 r2
          have FAR : Hid (∀ b o, b ≠ W2.heap.size → ((w5.setCell ⟨W2.heap.size, k * 2, none⟩ (.string u.nm)).setCell ⟨W2.heap.size, k * 2 + 1, none⟩ (.slice q5 u.args.length d5)).cell? ⟨b, o, none⟩ = w5.cell? ⟨b, o, none⟩) := Lib.hid (fun b o hb => by rw [cell_far hb, cell_far hb])
          have fin : Hid (∀ w6, w6 = (w5.setCell ⟨W2.heap.size, k * 2, none⟩ (.string u.nm)).setCell ⟨W2.heap.size, k * 2 + 1, none⟩ (.slice q5 u.args.length d5) → 
              Hid ((L ++ [(u, Value.slice q5 u.args.length d5)]).map (·.1) = (l.take (k + 1)).map (repT φ)) ∧ Hid (w6.ownsRow W2.heap.size 27 2 (.slice (some ⟨W2.heap.size, 0, none⟩) m m) m (flatL (L ++ [(u, Value.slice q5 u.args.length d5)]) ++ restL (m - (k + 1)))) ∧ Hid (∀ x ∈ L ++ [(u, Value.slice q5 u.args.length d5)], SlIn (fun b => W2.heap.size < b ∧ b < w6.heap.size) w6 x.1.args x.2 ∧ x.1.nm.size ≤ maxLen) ∧ Hid (Has w6 w.heap.size #[.string n, .slice (some ⟨b, o, none⟩) m c]) ∧ Hid (Has w6 (w.heap.size + 1) #[.string ⟨#[]⟩, .slice none 0 0]) ∧ Hid (Below w.heap.size w w6) ∧ W2.heap.size < w6.heap.size) := Lib.hid (by
            rintro w6 rfl
            refine ⟨Lib.hid (by rw [List.map_append, hL.out, TT.out]; rfl), Lib.hid (by have := ST2.out.1; rw [NX.out] at this; rw [show m - (k + 1) = m - k - 1 by omega]; exact this), Lib.hid (fun x hx => ?_), Lib.hid ((HO5.out.far (by show w.heap.size ≠ W2.heap.size; omega) _).far (by show w.heap.size ≠ W2.heap.size; omega) _), Lib.hid ((E5.out.far (by show w.heap.size + 1 ≠ W2.heap.size; omega) _).far (by show w.heap.size + 1 ≠ W2.heap.size; omega) _), Lib.hid ((B5.out.setCell (by show w.heap.size ≤ W2.heap.size; omega) _).setCell (by show w.heap.size ≤ W2.heap.size; omega) _), by simpa [World.setCell] using hgb⟩
            rcases List.mem_append.1 hx with hx | hx
            · exact ⟨((I5.out x hx).1.frame fun b o hb => FAR.out b o (by omega)).weaken fun b hb => ⟨hb.1, by simpa [World.setCell] using hb.2⟩, (I5.out x hx).2⟩
            · obtain rfl := List.mem_singleton.1 hx
              exact ⟨((S5.out.weaken (ok' := fun b => W2.heap.size < b ∧ b < w5.heap.size) fun b hb => ⟨by omega, hb.2⟩).frame fun b o hb => FAR.out b o (by omega)).weaken fun b hb => ⟨hb.1, by simpa [World.setCell] using hb.2⟩, N5.out⟩)
          clear ST1 ST2 NX FAR I5 S5 N5 HO5 E5 hI hO hH hE hL TT K5 KK4
          go_wp2_with fail
          go_roundw
          case rel => exact ⟨k + 1, _, by omega, by go_num, fin.out _ rfl⟩
          case measure => simp [intOf]; omega
        · obtain rfl : k = m := by omega
          have HL : Hid (L.map (·.1) = l.map (repT φ)) := Lib.hid (by rw [hL.out, FT.out])
          have OW := hO.out
          rw [Nat.sub_self, show restL 0 = [] from rfl, List.append_nil] at OW
          obtain ⟨x1, x2, _, _, x5⟩ := hH.out.two
          obtain ⟨y1, y2, y3, y4, y5⟩ := hE.out.two
          have r1 := hE.out.put0 (.string n) (.slice (some ⟨W2.heap.size, 0, none⟩) k k)
          have r2 := hE.out.put1 (.string n) (.slice (some ⟨W2.heap.size, 0, none⟩) k k)
          have S4 : Hid (SlIn (fun b => w.heap.size ≤ b ∧ b < ((wr.setCell ⟨w.heap.size + 1, 0, none⟩ (.string n)).setCell ⟨w.heap.size + 1, 1, none⟩ (.slice (some ⟨W2.heap.size, 0, none⟩) k k)).heap.size) ((wr.setCell ⟨w.heap.size + 1, 0, none⟩ (.string n)).setCell ⟨w.heap.size + 1, 1, none⟩ (.slice (some ⟨W2.heap.size, 0, none⟩) k k)) (l.map (repT φ)) (.slice (some ⟨W2.heap.size, 0, none⟩) k k)) := Lib.hid (by
            rw [← HL.out]
            have := slin_own hLl OW hI.out hsz
            exact (this.frame fun b o hb => by rw [cell_far (by show b ≠ w.heap.size + 1; omega), cell_far (by show b ≠ w.heap.size + 1; omega)]).weaken fun b hb => ⟨by omega, by simpa [World.setCell] using hb.2⟩)
          have D4 := Lib.hid ((hD.out.setCell (p := ⟨w.heap.size + 1, 0, none⟩) (by simp) (.string n)).setCell (p := ⟨w.heap.size + 1, 1, none⟩) (by simp) (.slice (some ⟨W2.heap.size, 0, none⟩) k k))
          clear OW hO hI hL HL hD hLl
          go_wp2_with fail
          refine bodyPost_ret (v := .agg #[.string n, .slice (some ⟨W2.heap.size, 0, none⟩) k k]) (by simp [results, Tryz.results45, go_sem, y1, y2]) rfl ?_
          exact ⟨_, _, rfl, S4.out, HNM.out, D4.out⟩
def RpR (sv : Value) (w : World) (e : Ending) (w' : World) : Prop := ∃ g : Nat, e = .returned (.func (.func 79) #[] #[.pointer (some ⟨g, 0, none⟩)]) ∧ Has w' g #[sv] ∧ Below w.heap.size w w'
theorem replacer_mk (sv : Value) (p : Option Addr) (n c : Nat) (hv : sv = .slice p n c) (w : World) : Calls Tryz.prog 46 #[sv] w (RpR sv w) := by
  subst hv
  have hmf := @hmf0
  unfold RpR
  go_enter Tryz.func46, Tryz.ntmps46
  go_wp2_with fail
  go_ret
  exact ⟨_, rfl, Has.new w _ _, below_alloc w _⟩
set_option maxRecDepth 100000 in
set_option maxHeartbeats 6400000 in
theorem apply_any (s : List Bd) (hS : Srt s) (hsz : Sz s) (t : Tm) (B : Nat) (w : World) (sv tv : Value) (hB : B ≤ w.heap.size) (hs : SIn (· < B) w s sv) (h : SlIn (· < B) w t.args tv) (hn : t.nm.size ≤ maxLen) (hz : sizeT t ≤ 1000000) :
    Calls Tryz.prog 20 #[sv, .agg #[.string t.nm, tv]] w (RepR (appT s t) w) := by
  obtain ⟨p, c, rfl⟩ := h.form
  obtain ⟨ps, cs, hsv⟩ := hs.form
  have CB := Lib.hid (fun (w' : World) (g : Nat) (k : Below w.heap.size w w') (hg : Has w' g #[sv]) => by
    have := replace_any g (leafS s) t B w' (.slice p t.args.length c) (Nat.le_trans hB k.size) (h.deep k hB) hn hz (fun w'' n k2 hn2 => replacer_any s n hn2 hS hsz B g w'' sv (Nat.le_trans hB (next0 k k2).size) (hs.deep (next0 k k2) hB) (hg.step0 k2))
    rw [rep_app] at this
    exact this)
  have CA := Lib.hid (fun w' => replacer_mk sv ps s.length cs hsv w')
  obtain ⟨W2, hW2⟩ : ∃ W2, W2 = (w.alloc (.cells #[.string t.nm, .slice p t.args.length c] 27)).alloc (.cells #[.string ⟨#[]⟩, .slice none 0 0] 27) := ⟨_, rfl⟩
  have G2 : Gr w W2 := by rw [hW2]; exact (Gr.alloc _ _).more _
  have hz2w : w.heap.size + 2 ≤ W2.heap.size := by rw [hW2]; simp
  have H2 : Hid (Has W2 w.heap.size #[.string t.nm, .slice p t.args.length c]) := Lib.hid (by rw [hW2]; exact (Has.new w _ _).alloc _)
  have E2 : Hid (Has W2 (w.heap.size + 1) #[.string ⟨#[]⟩, .slice none 0 0]) := Lib.hid (by rw [hW2]; exact Has.new1 w _ _ _)
  have GG := Lib.hid G2
  have CB := Lib.hid (fun (w' : World) (g : Nat) (k : Below W2.heap.size W2 w') (hg : Has w' g #[sv]) => CB.out w' g (next0 G2.1 k) hg)
  have HB2 := Lib.hid (fun (w' : World) (k : Below W2.heap.size W2 w') => (H2.out.step0 k).two)
  have HE2 := Lib.hid (fun (w' : World) (k : Below W2.heap.size W2 w') => E2.out.step0 k)
  clear h hs hB hz hn hS hsz G2 hsv
  generalize appT s t = u at *
  generalize t.nm = tn at *
  generalize t.args.length = ta at *
  unfold RpR at CA
  unfold RepR at CB ⊢
  obtain ⟨y1, y2, y3, y4, y5⟩ := HB2.out W2 (Below.refl _ _)
  go_enter Tryz.func20, Tryz.ntmps20
  go_upto_region 1 with fail
  rw [← hW2]
  clear hW2
  go_region_with (first
    | (go_at_call 46; (with_reducible refine (CA.out _).mono ?_); rintro e w3 ⟨g, rfl, hH, hb⟩; have D3 : Hid (Below W2.heap.size W2 w3) := Lib.hid (by first | exact hb | exact next0 (Below.refl _ _).drew hb | exact next0 (below_drewN (Below.refl _ _) _) hb); have HG := Lib.hid hH; clear hb hH; obtain ⟨z1, z2, z3, z4, z5⟩ := HB2.out _ D3.out)
    | (go_at_call 45; (with_reducible refine (CB.out _ _ (by first | exact D3.out | exact D3.out.drew | exact below_drewN D3.out _) (by exact HG.out)).mono ?_); rintro e w4 ⟨q, d, rfl, hS, hnu, hb⟩; have D4 : Hid (Below W2.heap.size W2 w4) := Lib.hid (by first | exact next0 D3.out hb | exact next0 D3.out.drew hb | exact next0 (below_drewN D3.out _) hb); have S4 := Lib.hid (hS.weaken (ok' := fun b => W2.heap.size ≤ b ∧ b < w4.heap.size) (fun b hb2 => ⟨Nat.le_trans D3.out.size hb2.1, hb2.2⟩)); have NU := Lib.hid hnu; have E4 := Lib.hid (HE2.out _ D4.out); clear hS hnu hb; obtain ⟨u1, u2, u3, u4, u5⟩ := E4.out.two))
  all_goals
    have r1 := E4.out.put0 (.string u.nm) (.slice q u.args.length d)
    have r2 := E4.out.put1 (.string u.nm) (.slice q u.args.length d)
    have S5 := Lib.hid (S4.out.frame (w' := (w4.setCell ⟨w.heap.size + 1, 0, none⟩ (.string u.nm)).setCell ⟨w.heap.size + 1, 1, none⟩ (.slice q u.args.length d)) (fun b o hb => by
      rw [cell_far (by show b ≠ w.heap.size + 1; omega), cell_far (by show b ≠ w.heap.size + 1; omega)]))
    have D5 := Lib.hid (((next0 GG.out.1 D4.out).setCell (p := ⟨w.heap.size + 1, 0, none⟩) (by simp) (.string u.nm)).setCell (p := ⟨w.heap.size + 1, 1, none⟩) (by simp) (.slice q u.args.length d))
    go_wp2_with fail
    refine bodyPost_ret (v := .agg #[.string u.nm, .slice q u.args.length d]) (by simp [results, Tryz.results20, go_sem, r1, r2]) rfl ?_
    exact ⟨q, d, rfl, S5.out.weaken (fun b hb => ⟨by omega, by simpa [World.setCell] using hb.2⟩), NU.out, D5.out⟩
end UniF
end Go.Proofs.YtihbnonbhelbmaaGreatDoor
/- Renaming of the leaves of a rule without a body: replace with Rename's closure. Condition: at most a million parts. Made by genunmh.py. -/
namespace Go.Proofs.YtihbnonbhelbmaaGreatDoor
open Go Go.RowKit Go.Maps Go.WideMaps
namespace UnmH
open LexM TermM TermI Kit TermN TermU UniK UniM UniA UniC UniD UniE UnmA UnmD
set_option maxRecDepth 100000 in
set_option maxHeartbeats 6400000 in
theorem replace_any (g : Nat) (φ : ByteArray → Tm) (t : Tm) : ∀ (B : Nat) (w : World) (sv : Value), B ≤ w.heap.size → SlIn (· < B) w t.args sv → t.nm.size ≤ maxLen → sizeT t ≤ 1000000 →
    (∀ (w' : World) (n : ByteArray), Below w.heap.size w w' → n.size ≤ maxLen → Calls Tryz.prog 64 #[.string n, .pointer (some ⟨g, 0, none⟩)] w' (RepR (φ n) w')) →
    Calls Tryz.prog 45 #[.agg #[.string t.nm, sv], .func (.func 64) #[] #[.pointer (some ⟨g, 0, none⟩)]] w (RepR (repT φ t) w) := by
  obtain ⟨i0, hi, hz0, hz1, hz2⟩ := info_parts Tryz.info28
  induction t using Tm.ind with
  | h n l ih =>
    intro B w sv hB h hnm hz HF
    dsimp only [Tm.args, Tm.nm] at h hnm ⊢
    obtain ⟨p, c, rfl, hn, hc, hm, hR⟩ := h.row
    have hls := len_size l
    simp only [sizeT] at hz
    obtain ⟨W2, hW2⟩ : ∃ W2, W2 = (w.alloc (.cells #[.string n, .slice p l.length c] 27)).alloc (.cells #[.string ⟨#[]⟩, .slice none 0 0] 27) := ⟨_, rfl⟩
    have G2 : Gr w W2 := by rw [hW2]; exact (Gr.alloc _ _).more _
    have hz2w : w.heap.size + 2 ≤ W2.heap.size := by rw [hW2]; simp
    have H2 : Hid (Has W2 w.heap.size #[.string n, .slice p l.length c]) := Lib.hid (by rw [hW2]; exact (Has.new w _ _).alloc _)
    have E2 : Hid (Has W2 (w.heap.size + 1) #[.string ⟨#[]⟩, .slice none 0 0]) := Lib.hid (by rw [hW2]; exact Has.new1 w _ _ _)
    have hmf := @hmf0
    by_cases h0 : l = []
    · subst h0
      have e1 : repT φ (.mk n []) = φ n := by simp [repT]
      rw [e1]
      have CF := Lib.hid (HF W2 n G2.1 hnm)
      clear ih hR h hz HF hls
      generalize φ n = u at *
      unfold RepR at CF ⊢
      simp only [List.length_nil] at hW2 H2
      go_enter Tryz.func45, Tryz.ntmps45
      go_upto_region 1 with fail
      rw [← hW2]
      clear hW2
      obtain ⟨x1, x2, x3, x4, x5⟩ := H2.out.two
      go_wp2_with fail
      refine CF.out.mono ?_
      rintro e w3 ⟨q, d, rfl, hS, hnu, hb⟩
      have B3 := Lib.hid (next0 G2.1 hb)
      obtain ⟨y1, y2, y3, y4, y5⟩ := (E2.out.step0 hb).two
      have r1 := (E2.out.step0 hb).put0 (.string u.nm) (.slice q u.args.length d)
      have r2 := (E2.out.step0 hb).put1 (.string u.nm) (.slice q u.args.length d)
      have S4 := Lib.hid (((hS.weaken (ok' := fun b => W2.heap.size ≤ b ∧ b < w3.heap.size) (fun b hb => hb)).frame (w' := (w3.setCell ⟨w.heap.size + 1, 0, none⟩ (.string u.nm)).setCell ⟨w.heap.size + 1, 1, none⟩ (.slice q u.args.length d)) (fun b o hb => by
        rw [cell_far (by show b ≠ w.heap.size + 1; omega), cell_far (by show b ≠ w.heap.size + 1; omega)])))
      have D4 := Lib.hid ((B3.out.setCell (p := ⟨w.heap.size + 1, 0, none⟩) (by simp) (.string u.nm)).setCell (p := ⟨w.heap.size + 1, 1, none⟩) (by simp) (.slice q u.args.length d))
      have HNU := Lib.hid hnu
      clear hS hb B3 hnu CF x1 x2 x3 x4
      go_wp2_with fail
      refine bodyPost_ret (v := .agg #[.string u.nm, .slice q u.args.length d]) (by simp [results, Tryz.results45, go_sem, y1, y2]) rfl ?_
      exact ⟨q, d, rfl, S4.out.weaken (fun b hb => ⟨by omega, by simpa [World.setCell] using hb.2⟩), HNU.out, D4.out⟩
    · have hne : l.isEmpty = false := by cases l <;> simp_all
      have e1 : repT φ (.mk n l) = .mk n (l.map (repT φ)) := by rw [repT, if_neg (by simp [hne]), repL_map]
      rw [e1]
      have hlp : 0 < l.length := List.length_pos_iff.2 h0
      obtain ⟨wm, M, O, G⟩ := run_make_full (P := Tryz.prog) W2 W2.heap.size 25 27 i0 _ 2 Tryz.underlying25 hi hz0 hz1 .i64 .i64 l.length (by rw [hz2]; omega) (by unfold maxLen; omega) (Nat.le_refl _)
      have O0 : Hid (wm.ownsRow W2.heap.size 27 2 (.slice (some ⟨W2.heap.size, 0, none⟩) l.length l.length) l.length (flatL [] ++ restL l.length)) := Lib.hid (by rw [made_rest] at O; exact O)
      have Bm := Lib.hid (next0 G2.1 ((Below.refl W2.heap.size W2).grown G (Nat.le_refl _) (fun k h => by cases h)))
      have Hm := Lib.hid (Has.grown H2.out G (by simp))
      have Em := Lib.hid (Has.grown E2.out G (by simp))
      have IH : Hid (∀ t ∈ l, ∀ (w' : World) (v : Value), Below w.heap.size w w' → SlIn (· < B) w' t.args v → t.nm.size ≤ maxLen → Calls Tryz.prog 45 #[.agg #[.string t.nm, v], .func (.func 64) #[] #[.pointer (some ⟨g, 0, none⟩)]] w' (RepR (repT φ t) w')) :=
        Lib.hid (fun t hk w' v hb h hn => ih t hk B w' v (Nat.le_trans hB hb.size) h hn (by have := size_mem hk; omega) (fun w2 n2 hb2 hn2 => HF w2 n2 (next0 hb hb2) hn2))
      have TK : Hid (∀ k t, l[k]? = some t → (l.take (k + 1)).map (repT φ) = (l.take k).map (repT φ) ++ [repT φ t]) := Lib.hid (fun k t h => by rw [take_get l k t h]; simp)
      have FT : Hid ((l.take l.length).map (repT φ) = l.map (repT φ)) := Lib.hid (by simp)
      have HB := Lib.hid hB
      have HR := Lib.hid hR
      have HNM := Lib.hid hnm
      have hlb : l.length ≤ 1000000 := by omega
      have ll : Hid ((l.map (repT φ)).length = l.length) := Lib.hid (by simp)
      unfold RepR
      dsimp only [Tm.nm, Tm.args]
      rw [ll.out]
      generalize hm' : l.length = m at *
      have HM := Lib.hid hm'
      clear ih hR h hm' hn hls hz HF O G ll
      have hm0 : ((m : Int) == 0) = false := by rw [beq_eq_false_iff_ne]; omega
      go_enter Tryz.func45, Tryz.ntmps45
      go_upto_region 1 with fail
      rw [← hW2]
      clear hW2
      obtain ⟨x1, x2, x3, x4, x5⟩ := H2.out.two
      go_upto_region 3 with fail
      go_upto_region 4 with fail
      clear x1 x2 x3 x4 x5
      obtain ⟨x1, x2, x3, x4, x5⟩ := Hm.out.two
      go_wp2_with fail
      go_loopw [23] (fun i wr => ∃ (k : Nat) (L : List (Tm × Value)), k ≤ m ∧ i = .int .i64 k ∧ Hid (L.map (·.1) = (l.take k).map (repT φ)) ∧ Hid (wr.ownsRow W2.heap.size 27 2 (.slice (some ⟨W2.heap.size, 0, none⟩) m m) m (flatL L ++ restL (m - k))) ∧ Hid (∀ x ∈ L, SlIn (fun b => W2.heap.size < b ∧ b < wr.heap.size) wr x.1.args x.2 ∧ x.1.nm.size ≤ maxLen) ∧ Hid (Has wr w.heap.size #[.string n, .slice p m c]) ∧ Hid (Has wr (w.heap.size + 1) #[.string ⟨#[]⟩, .slice none 0 0]) ∧ Hid (Below w.heap.size w wr) ∧ W2.heap.size < wr.heap.size) (fun i _ => m - (intOf i).toNat)
      case atStart => exact ⟨0, [], Nat.zero_le _, rfl, Lib.hid rfl, O0, Lib.hid (fun x hx => absurd hx (List.not_mem_nil)), Hm, Em, Bm, (World.ownsRow.lt O0.out _ rfl).2⟩
      case round =>
        obtain ⟨k, L, hk, rfl, hL, hO, hI, hH, hE, hD, hsz⟩ := hrel
        have hLl : L.length = k := by
          have := congrArg List.length hL.out
          rw [List.length_map, List.length_map, List.length_take, HM.out] at this
          omega
        by_cases hlt : k < m
        · obtain ⟨t, b, o, q, d, ht, rfl, hb, c1, c2, hs, hts⟩ := (Row.deep HR.out hD.out HB.out) k (by rw [HM.out]; exact hlt)
          have TT := Lib.hid (TK.out k t ht)
          obtain ⟨W4, hW4⟩ : ∃ W4, W4 = wr.alloc (.cells #[.string t.nm, .slice q t.args.length d] 27) := ⟨_, rfl⟩
          have D4 : Below w.heap.size w W4 := by rw [hW4]; exact next0 hD.out (below_alloc _ _)
          have k4 : Below wr.heap.size wr W4 := by rw [hW4]; exact below_alloc _ _
          have hz4 : W4.heap.size = wr.heap.size + 1 := by rw [hW4]; simp
          obtain ⟨y1, y2, _⟩ := (show Has W4 wr.heap.size #[.string t.nm, .slice q t.args.length d] by rw [hW4]; exact Has.new _ _ _).two
          have CI := Lib.hid (IH.out t (List.mem_of_getElem? ht) W4 _ D4 (hs.deep k4 (Nat.le_trans HB.out hD.out.size)) hts)
          have DD := Lib.hid D4
          have KK4 := Lib.hid k4
          clear hs hts ht D4 k4
          generalize t.nm = tn at *
          generalize t.args.length = ta at *
          generalize repT φ t = u at *
          unfold RepR at CI
          go_upto_region 7 with fail
          rw [← hW4]
          clear hW4 c1 c2
          go_wp2_with fail
          refine CI.out.mono ?_
          rintro e w5 ⟨q5, d5, rfl, hS5, hn5, hb5⟩
          have B5 := Lib.hid (next0 DD.out hb5)
          have K5 := Lib.hid (next0 KK4.out hb5)
          have O5 := Lib.hid (own_bel hO.out K5.out (fun g h => by cases h; exact hsz))
          have HO5 := Lib.hid (Has.step0 hH.out K5.out)
          have E5 := Lib.hid (Has.step0 hE.out K5.out)
          have I5 : Hid (∀ x ∈ L, SlIn (fun b => W2.heap.size < b ∧ b < w5.heap.size) w5 x.1.args x.2 ∧ x.1.nm.size ≤ maxLen) := Lib.hid (fun x hx => ⟨((hI.out x hx).1.frame fun b o hb => K5.out.cell (p := ⟨b, o, none⟩) hb.2).weaken fun b hb => ⟨hb.1, Nat.lt_of_lt_of_le hb.2 K5.out.size⟩, (hI.out x hx).2⟩)
          have S5 := Lib.hid hS5
          have N5 := Lib.hid hn5
          have hz5 : wr.heap.size + 1 ≤ w5.heap.size := by have := hb5.size; omega
          clear hS5 hn5 hb5 CI y1 y2 DD
          obtain ⟨r1, r2⟩ := rest_at L (m - k) (by omega)
          rw [hLl] at r1 r2
          have z1 := (O5.out.cellAt (k * 2) (by omega)).trans r1
          have z2 := (O5.out.cellAt (k * 2 + 1) (by omega)).trans r2
          have f1 := O5.out.frozenAt (k * 2)
          have f2 := O5.out.frozenAt (k * 2 + 1)
          have ST1 := Lib.hid (O5.out.stored (k * 2) (.string u.nm))
          have ST2 := Lib.hid (ST1.out.1.stored (k * 2 + 1) (.slice q5 u.args.length d5))
          have hgb : W2.heap.size < w5.heap.size := by omega
          have NX := Lib.hid (rest_set L u (.slice q5 u.args.length d5) (m - k) (by omega))
          rw [hLl] at NX
          clear r1 r2
          have FAR : Hid (∀ b o, b ≠ W2.heap.size → ((w5.setCell ⟨W2.heap.size, k * 2, none⟩ (.string u.nm)).setCell ⟨W2.heap.size, k * 2 + 1, none⟩ (.slice q5 u.args.length d5)).cell? ⟨b, o, none⟩ = w5.cell? ⟨b, o, none⟩) := Lib.hid (fun b o hb => by rw [cell_far hb, cell_far hb])
          have fin : Hid (∀ w6, w6 = (w5.setCell ⟨W2.heap.size, k * 2, none⟩ (.string u.nm)).setCell ⟨W2.heap.size, k * 2 + 1, none⟩ (.slice q5 u.args.length d5) → 
              Hid ((L ++ [(u, Value.slice q5 u.args.length d5)]).map (·.1) = (l.take (k + 1)).map (repT φ)) ∧ Hid (w6.ownsRow W2.heap.size 27 2 (.slice (some ⟨W2.heap.size, 0, none⟩) m m) m (flatL (L ++ [(u, Value.slice q5 u.args.length d5)]) ++ restL (m - (k + 1)))) ∧ Hid (∀ x ∈ L ++ [(u, Value.slice q5 u.args.length d5)], SlIn (fun b => W2.heap.size < b ∧ b < w6.heap.size) w6 x.1.args x.2 ∧ x.1.nm.size ≤ maxLen) ∧ Hid (Has w6 w.heap.size #[.string n, .slice (some ⟨b, o, none⟩) m c]) ∧ Hid (Has w6 (w.heap.size + 1) #[.string ⟨#[]⟩, .slice none 0 0]) ∧ Hid (Below w.heap.size w w6) ∧ W2.heap.size < w6.heap.size) := Lib.hid (by
            rintro w6 rfl
            refine ⟨Lib.hid (by rw [List.map_append, hL.out, TT.out]; rfl), Lib.hid (by have := ST2.out.1; rw [NX.out] at this; rw [show m - (k + 1) = m - k - 1 by omega]; exact this), Lib.hid (fun x hx => ?_), Lib.hid ((HO5.out.far (by show w.heap.size ≠ W2.heap.size; omega) _).far (by show w.heap.size ≠ W2.heap.size; omega) _), Lib.hid ((E5.out.far (by show w.heap.size + 1 ≠ W2.heap.size; omega) _).far (by show w.heap.size + 1 ≠ W2.heap.size; omega) _), Lib.hid ((B5.out.setCell (by show w.heap.size ≤ W2.heap.size; omega) _).setCell (by show w.heap.size ≤ W2.heap.size; omega) _), by simpa [World.setCell] using hgb⟩
            rcases List.mem_append.1 hx with hx | hx
            · exact ⟨((I5.out x hx).1.frame fun b o hb => FAR.out b o (by omega)).weaken fun b hb => ⟨hb.1, by simpa [World.setCell] using hb.2⟩, (I5.out x hx).2⟩
            · obtain rfl := List.mem_singleton.1 hx
              exact ⟨((S5.out.weaken (ok' := fun b => W2.heap.size < b ∧ b < w5.heap.size) fun b hb => ⟨by omega, hb.2⟩).frame fun b o hb => FAR.out b o (by omega)).weaken fun b hb => ⟨hb.1, by simpa [World.setCell] using hb.2⟩, N5.out⟩)
          clear ST1 ST2 NX FAR I5 S5 N5 HO5 E5 hI hO hH hE hL TT K5 KK4
          go_wp2_with fail
          go_roundw
          case rel => exact ⟨k + 1, _, by omega, by go_num, fin.out _ rfl⟩
          case measure => simp [intOf]; omega
        · obtain rfl : k = m := by omega
          have HL : Hid (L.map (·.1) = l.map (repT φ)) := Lib.hid (by rw [hL.out, FT.out])
          have OW := hO.out
          rw [Nat.sub_self, show restL 0 = [] from rfl, List.append_nil] at OW
          obtain ⟨x1, x2, _, _, x5⟩ := hH.out.two
          obtain ⟨y1, y2, y3, y4, y5⟩ := hE.out.two
          have r1 := hE.out.put0 (.string n) (.slice (some ⟨W2.heap.size, 0, none⟩) k k)
          have r2 := hE.out.put1 (.string n) (.slice (some ⟨W2.heap.size, 0, none⟩) k k)
          have S4 : Hid (SlIn (fun b => w.heap.size ≤ b ∧ b < ((wr.setCell ⟨w.heap.size + 1, 0, none⟩ (.string n)).setCell ⟨w.heap.size + 1, 1, none⟩ (.slice (some ⟨W2.heap.size, 0, none⟩) k k)).heap.size) ((wr.setCell ⟨w.heap.size + 1, 0, none⟩ (.string n)).setCell ⟨w.heap.size + 1, 1, none⟩ (.slice (some ⟨W2.heap.size, 0, none⟩) k k)) (l.map (repT φ)) (.slice (some ⟨W2.heap.size, 0, none⟩) k k)) := Lib.hid (by
            rw [← HL.out]
            have := slin_own hLl OW hI.out hsz
            exact (this.frame fun b o hb => by rw [cell_far (by show b ≠ w.heap.size + 1; omega), cell_far (by show b ≠ w.heap.size + 1; omega)]).weaken fun b hb => ⟨by omega, by simpa [World.setCell] using hb.2⟩)
          have D4 := Lib.hid ((hD.out.setCell (p := ⟨w.heap.size + 1, 0, none⟩) (by simp) (.string n)).setCell (p := ⟨w.heap.size + 1, 1, none⟩) (by simp) (.slice (some ⟨W2.heap.size, 0, none⟩) k k))
          clear OW hO hI hL HL hD hLl
          go_wp2_with fail
          refine bodyPost_ret (v := .agg #[.string n, .slice (some ⟨W2.heap.size, 0, none⟩) k k]) (by simp [results, Tryz.results45, go_sem, y1, y2]) rfl ?_
          exact ⟨_, _, rfl, S4.out, HNM.out, D4.out⟩
/-- What the renaming makes of a leaf. -/
def renT (NL : List (Ky × ByteArray)) (n : ByteArray) : Tm := match lookK NL n.data.toList with
  | some s => .mk s []
  | none => .mk n []
def namesV (NL : List (Ky × ByteArray)) : List (Ky × Value) := NL.map fun x => (x.1, Value.string x.2)
set_option maxRecDepth 100000 in
set_option maxHeartbeats 1600000 in
theorem renamer_any (NL : List (Ky × ByteArray)) (bm g k : Nat) (n : ByteArray) (hn : n.size ≤ maxLen) (hNL : ∀ x ∈ NL, x.2.size ≤ maxLen) (w : World) (hM : w.ownsMap Tryz.prog 9 heldE bm k (DataOf (namesV NL))) (hg : Has w g #[.map (some bm)]) :
    Calls Tryz.prog 64 #[.string n, .pointer (some ⟨g, 0, none⟩)] w (RepR (renT NL n) w) := by
  obtain ⟨W1, hW1⟩ : ∃ W1, W1 = w.alloc (.cells #[.string ⟨#[]⟩, .slice none 0 0] 27) := ⟨_, rfl⟩
  have B1 : Hid (Below w.heap.size w W1) := Lib.hid (by rw [hW1]; exact below_alloc _ _)
  have H1 : Hid (Has W1 w.heap.size #[.string ⟨#[]⟩, .slice none 0 0]) := Lib.hid (by rw [hW1]; exact Has.new _ _ _)
  have c0 : W1.cell? ⟨g, 0, none⟩ = some (.map (some bm)) := (hg.step0 B1.out).cell 0
  have hM1 : W1.ownsMap Tryz.prog 9 heldE bm k (DataOf (namesV NL)) := by rw [hW1]; exact hM.alloc _
  have LK := look_held (z := .string ⟨#[]⟩) hM1 Tryz.underlying80 (by kernel_rfl) n hn
  have ER : Hid (renT NL n = match lookK NL n.data.toList with | some s => .mk s [] | none => .mk n []) := Lib.hid rfl
  have HN := Lib.hid hn
  have HS := Lib.hid (fun s (h : lookK NL n.data.toList = some s) => hNL _ (lookK_mem h))
  unfold namesV at LK
  simp only [lookK_map (fun x : ByteArray => Value.string x)] at LK
  rw [Option.isSome_map] at LK
  clear hM1 hM hg hNL hn
  generalize renT NL n = u at *
  unfold RepR
  cases ho : lookK NL n.data.toList with
  | none =>
    rw [ho] at LK
    have EU := ER.out
    rw [ho] at EU
    dsimp only at EU
    subst EU
    simp only [Option.map_none, Option.getD_none, Option.isSome_none] at LK
    clear HS ER ho
    dsimp only [Tm.nm, Tm.args]
    go_enter Tryz.func64, Tryz.ntmps64
    go_upto_region 1 with fail
    rw [← hW1]
    clear hW1
    go_wp2_with fail
    refine (leaf_nil n _).mono ?_
    rintro e w2 ⟨rfl, k2⟩
    have D2 := Lib.hid (next0 B1.out k2)
    have H2 := Lib.hid (H1.out.step0 k2)
    obtain ⟨y1, y2, y3, y4, y5⟩ := H2.out.two
    have r1 := H2.out.put0 (.string n) (.slice none 0 0)
    have r2 := H2.out.put1 (.string n) (.slice none 0 0)
    have D3 := Lib.hid ((D2.out.setCell (p := ⟨w.heap.size, 0, none⟩) (by simp) (.string n)).setCell (p := ⟨w.heap.size, 1, none⟩) (by simp) (.slice none 0 0))
    clear k2
    go_wp2_with fail
    refine bodyPost_ret (v := .agg #[.string n, .slice none 0 0]) (by simp [results, Tryz.results64, go_sem, r1, r2]) rfl ?_
    exact ⟨none, 0, rfl, SlIn.none _ _, HN.out, D3.out⟩
  | some s =>
    rw [ho] at LK
    have EU := ER.out
    rw [ho] at EU
    dsimp only at EU
    subst EU
    have HS1 := Lib.hid (HS.out s ho)
    simp only [Option.map_some, Option.getD_some, Option.isSome_some] at LK
    clear HS ER ho
    dsimp only [Tm.nm, Tm.args]
    go_enter Tryz.func64, Tryz.ntmps64
    go_upto_region 1 with fail
    rw [← hW1]
    clear hW1
    go_wp2_with fail
    refine (leaf_nil s _).mono ?_
    rintro e w2 ⟨rfl, k2⟩
    have D2 := Lib.hid (next0 B1.out k2)
    have H2 := Lib.hid (H1.out.step0 k2)
    obtain ⟨y1, y2, y3, y4, y5⟩ := H2.out.two
    have r1 := H2.out.put0 (.string s) (.slice none 0 0)
    have r2 := H2.out.put1 (.string s) (.slice none 0 0)
    have D3 := Lib.hid ((D2.out.setCell (p := ⟨w.heap.size, 0, none⟩) (by simp) (.string s)).setCell (p := ⟨w.heap.size, 1, none⟩) (by simp) (.slice none 0 0))
    clear k2
    go_wp2_with fail
    refine bodyPost_ret (v := .agg #[.string s, .slice none 0 0]) (by simp [results, Tryz.results64, go_sem, r1, r2]) rfl ?_
    exact ⟨none, 0, rfl, SlIn.none _ _, HS1.out, D3.out⟩
theorem put3 {w : World} {g : Nat} {a b c : Value} (h : Has w g #[a, b, c]) (u v x : Value) : Has (((w.setCell ⟨g, 0, none⟩ u).setCell ⟨g, 1, none⟩ v).setCell ⟨g, 2, none⟩ x) g #[u, v, x] := ((h.set 0 u).set 1 v).set 2 x
/-- A rule without a body: its head comes back in new blocks. -/
def RuR (u : Tm) (w : World) (e : Ending) (w' : World) : Prop :=
  ∃ (p : Option Addr) (c : Nat), e = .returned (.agg #[.string u.nm, .slice p u.args.length c, .slice none 0 0]) ∧ SlIn (fun b => w.heap.size ≤ b ∧ b < w'.heap.size) w' u.args (.slice p u.args.length c) ∧ u.nm.size ≤ maxLen ∧ Below w.heap.size w w'
set_option maxRecDepth 100000 in
set_option maxHeartbeats 1600000 in
theorem rinr_nil (g : Nat) (φ : ByteArray → Tm) (h : Tm) (B : Nat) (w : World) (hv : Value) (hB : B ≤ w.heap.size) (hs : SlIn (· < B) w h.args hv) (hn : h.nm.size ≤ maxLen) (hz : sizeT h ≤ 1000000)
    (HF : ∀ (w' : World) (n : ByteArray), Below w.heap.size w w' → n.size ≤ maxLen → Calls Tryz.prog 64 #[.string n, .pointer (some ⟨g, 0, none⟩)] w' (RepR (φ n) w')) :
    Calls Tryz.prog 48 #[.agg #[.string h.nm, hv, .slice none 0 0], .func (.func 64) #[] #[.pointer (some ⟨g, 0, none⟩)]] w (RuR (repT φ h) w) := by
  obtain ⟨p, c, rfl⟩ := hs.form
  have hmf := @hmf0
  obtain ⟨W2, hW2⟩ : ∃ W2, W2 = (w.alloc (.cells #[.string h.nm, .slice p h.args.length c, .slice none 0 0] 34)).alloc (.cells #[.string ⟨#[]⟩, .slice none 0 0, .slice none 0 0] 34) := ⟨_, rfl⟩
  have B2 : Hid (Below w.heap.size w W2) := Lib.hid (by rw [hW2]; exact next0 (below_alloc _ _) (below_alloc _ _))
  have H2 : Hid (Has W2 w.heap.size #[.string h.nm, .slice p h.args.length c, .slice none 0 0]) := Lib.hid (by rw [hW2]; exact (Has.new w _ _).alloc _)
  have E2 : Hid (Has W2 (w.heap.size + 1) #[.string ⟨#[]⟩, .slice none 0 0, .slice none 0 0]) := Lib.hid (by rw [hW2]; exact Has.new1 w _ _ _)
  have hs2 : w.heap.size + 2 ≤ W2.heap.size := by rw [hW2]; simp
  have CB := Lib.hid (replace_any g φ h B W2 (.slice p h.args.length c) (Nat.le_trans hB B2.out.size) (hs.deep B2.out hB) hn hz (fun w' n k hn => HF w' n (next0 B2.out k) hn))
  clear hs hn hz HF hB
  generalize repT φ h = u at *
  unfold RepR at CB
  generalize h.nm = hnm at *
  generalize h.args.length = hl at *
  obtain ⟨y1, y2, y3⟩ := UniA.three H2.out
  go_enter Tryz.func48, Tryz.ntmps48
  go_upto_region 1 with fail
  rw [← hW2]
  clear hW2
  go_wp2_with fail
  refine CB.out.mono ?_
  rintro e w3 ⟨q, d, rfl, hS, hnu, k3⟩
  have D3 := Lib.hid (next0 B2.out k3)
  have H3 := Lib.hid (H2.out.step0 k3)
  have E3 := Lib.hid (E2.out.step0 k3)
  have S3 := Lib.hid (hS.weaken (ok' := fun b => W2.heap.size ≤ b ∧ b < w3.heap.size) (fun b hb => hb))
  have NU := Lib.hid hnu
  clear y1 y2 y3 hS hnu k3 H2 E2 CB
  obtain ⟨W4, hW4⟩ : ∃ W4, W4 = w3.alloc (.cells #[.string u.nm, .slice q u.args.length d, .slice none 0 0] 34) := ⟨_, rfl⟩
  have K4 : Hid (Below w3.heap.size w3 W4) := Lib.hid (by rw [hW4]; exact below_alloc _ _)
  have R4 : Hid (Has W4 w3.heap.size #[.string u.nm, .slice q u.args.length d, .slice none 0 0]) := Lib.hid (by rw [hW4]; exact Has.new _ _ _)
  have H4 := Lib.hid (H3.out.step0 K4.out)
  have E4 := Lib.hid (E3.out.step0 K4.out)
  have D4 := Lib.hid (next0 D3.out K4.out)
  have S4 := Lib.hid ((S3.out.frame (w' := W4) fun b o hb => K4.out.cell (p := ⟨b, o, none⟩) hb.2).weaken (ok' := fun b => W2.heap.size ≤ b ∧ b < W4.heap.size) fun b hb => ⟨hb.1, Nat.lt_of_lt_of_le hb.2 K4.out.size⟩)
  clear D3 H3 E3 S3
  obtain ⟨y1, y2, y3⟩ := UniA.three H4.out
  go_upto_region 2 with fail
  rw [← hW4]
  clear hW4
  go_wp2_with fail
  go_loopw [16] (fun i wr => ∃ k : Nat, k ≤ 0 ∧ i = .int .i64 k ∧ Hid (Below W4.heap.size W4 wr)) (fun i _ => 0 - (intOf i).toNat)
  case atStart => exact ⟨0, Nat.le_refl _, rfl, Lib.hid (Below.refl _ _)⟩
  case round =>
    obtain ⟨k, hk, rfl, hK⟩ := hrel
    have hk0 : ¬ ((k : Int) < 0) := by omega
    have E5 := Lib.hid (E4.out.step0 hK.out)
    have R5 := Lib.hid (R4.out.step0 hK.out)
    have D5 := Lib.hid (next0 D4.out hK.out)
    have S5 := Lib.hid ((S4.out.frame (w' := wr) fun b o hb => hK.out.cell (p := ⟨b, o, none⟩) hb.2).weaken (ok' := fun b => W2.heap.size ≤ b ∧ b < wr.heap.size) fun b hb => ⟨hb.1, Nat.lt_of_lt_of_le hb.2 hK.out.size⟩)
    clear E4 R4 D4 S4 H4 y1 y2 y3
    obtain ⟨y1, y2, y3⟩ := UniA.three R5.out
    obtain ⟨z1, z2, z3⟩ := UniA.three E5.out
    have f1 := E5.out.free 0
    have f2 := E5.out.free 1
    have f3 := E5.out.free 2
    have hel : w.heap.size + 1 < wr.heap.size := E5.out.lt
    have R6 := put3 E5.out (.string u.nm) (.slice q u.args.length d) (.slice none 0 0)
    obtain ⟨r1, r2, r3⟩ := UniA.three R6
    have D6 := Lib.hid (((D5.out.setCell (p := ⟨w.heap.size + 1, 0, none⟩) (by simp) (.string u.nm)).setCell (p := ⟨w.heap.size + 1, 1, none⟩) (by simp) (.slice q u.args.length d)).setCell (p := ⟨w.heap.size + 1, 2, none⟩) (by simp) (.slice none 0 0))
    have S6 := Lib.hid (S5.out.frame (w' := ((wr.setCell ⟨w.heap.size + 1, 0, none⟩ (.string u.nm)).setCell ⟨w.heap.size + 1, 1, none⟩ (.slice q u.args.length d)).setCell ⟨w.heap.size + 1, 2, none⟩ (.slice none 0 0)) (fun b o hb => by
      rw [cell_far (by show b ≠ w.heap.size + 1; omega), cell_far (by show b ≠ w.heap.size + 1; omega), cell_far (by show b ≠ w.heap.size + 1; omega)]))
    clear R6 E5 R5 D5 S5
    go_wp2_with fail
    refine bodyPost_ret (v := .agg #[.string u.nm, .slice q u.args.length d, .slice none 0 0]) (by simp [results, Tryz.results48, go_sem, r1, r2, r3]) rfl ?_
    unfold RuR
    exact ⟨q, d, rfl, S6.out.weaken (fun b hb => ⟨by omega, by simpa [World.setCell] using hb.2⟩), NU.out, D6.out⟩
end UnmH
end Go.Proofs.YtihbnonbhelbmaaGreatDoor
/- Rename of a rule without a body whose new names are all variables. Conditions: fewer than a hundred variables, at most 900000 parts. -/
namespace Go.Proofs.YtihbnonbhelbmaaGreatDoor
open Go Go.RowKit Go.Maps Go.WideMaps
namespace UnmI
open LexM TermM TermI Kit TermN TermU TermL TermE TermF UniK UniM UniA UniC UniD UniE UnmA UnmB UnmC UnmD UnmE UnmF UnmG UnmH
def namesK (f : Nat → ByteArray) (vs : List ByteArray) : Nat → List (Ky × ByteArray)
  | 0 => []
  | k + 1 => match vs[k]? with
    | some v => (v.data.toList, f k) :: namesK f vs k
    | none => namesK f vs k
def newName (pre : ByteArray) (k : Nat) : ByteArray := pre ++ ⟨(Lib.decDigits (k + 1)).toArray⟩
theorem names_next {f : Nat → ByteArray} {vs : List ByteArray} {k : Nat} {v : ByteArray} (h : vs[k]? = some v) : namesV (namesK f vs (k + 1)) = (v.data.toList, Value.string (f k)) :: namesV (namesK f vs k) := by
  simp [namesK, h, namesV]
theorem names_mem {f : Nat → ByteArray} {vs : List ByteArray} : ∀ {k : Nat} {x : Ky × ByteArray}, x ∈ namesK f vs k → ∃ j, j < k ∧ j < vs.length ∧ x.2 = f j
  | 0, x, h => by simp [namesK] at h
  | k + 1, x, h => by
    unfold namesK at h
    cases hv : vs[k]? with
    | none =>
      rw [hv] at h
      obtain ⟨j, h1, h2⟩ := names_mem h
      exact ⟨j, by omega, h2⟩
    | some v =>
      rw [hv] at h
      rcases List.mem_cons.1 h with rfl | h
      · exact ⟨k, by omega, (List.getElem?_eq_some_iff.1 hv).1, rfl⟩
      · obtain ⟨j, h1, h2⟩ := names_mem h
        exact ⟨j, by omega, h2⟩
/-- What Rename leaves. -/
def RnR (u : Tm) (w : World) (e : Ending) (w' : World) : Prop :=
  ∃ (p : Option Addr) (c : Nat), e = .returned (.tuple #[.agg #[.string u.nm, .slice p u.args.length c, .slice none 0 0], .bool true]) ∧ SlIn (fun b => w.heap.size ≤ b ∧ b < w'.heap.size) w' u.args (.slice p u.args.length c) ∧ u.nm.size ≤ maxLen ∧ Below w.heap.size w w'
set_option maxRecDepth 100000 in
set_option maxHeartbeats 1600000 in
theorem rename_nil (h : Tm) (pre : ByteArray) (B : Nat) (w : World) (hv : Value) (hB : B ≤ w.heap.size) (hs : SlIn (· < B) w h.args hv) (hn : h.nm.size ≤ maxLen) (hz : sizeT h ≤ 900000)
    (hl : (varsOf (leavesL [h])).length < 99) (hN : ∀ k, k < (varsOf (leavesL [h])).length → varB (newName pre k) = true) :
    Calls Tryz.prog 33 #[.agg #[.string h.nm, hv, .slice none 0 0], .string pre] w (RnR (repT (renT (namesK (newName pre) (varsOf (leavesL [h])) (varsOf (leavesL [h])).length)) h) w) := by
  obtain ⟨p, c, rfl⟩ := hs.form
  obtain ⟨W2, hW2⟩ : ∃ W2, W2 = (w.alloc (.cells #[.string h.nm, .slice p h.args.length c, .slice none 0 0] 34)).alloc (.cells #[.string ⟨#[]⟩, .slice none 0 0, .slice none 0 0] 34) := ⟨_, rfl⟩
  have B2 : Hid (Below w.heap.size w W2) := Lib.hid (by rw [hW2]; exact next0 (below_alloc _ _) (below_alloc _ _))
  have H2 : Hid (Has W2 w.heap.size #[.string h.nm, .slice p h.args.length c, .slice none 0 0]) := Lib.hid (by rw [hW2]; exact (Has.new w _ _).alloc _)
  have E2 : Hid (Has W2 (w.heap.size + 1) #[.string ⟨#[]⟩, .slice none 0 0, .slice none 0 0]) := Lib.hid (by rw [hW2]; exact Has.new1 w _ _ _)
  have hs2 : w.heap.size + 2 ≤ W2.heap.size := by rw [hW2]; simp
  obtain ⟨W3, hW3⟩ : ∃ W3, W3 = (W2.alloc (.map #[] 0)).alloc (.cells #[.map (some W2.heap.size)] 80) := ⟨_, rfl⟩
  have B3 : Hid (Below W2.heap.size W2 W3) := Lib.hid (by rw [hW3]; exact next0 (below_alloc _ _) (below_alloc _ _))
  have M3 : Hid (W3.ownsMap Tryz.prog 9 heldE W2.heap.size 0 (DataOf (namesV (namesK (newName pre) (varsOf (leavesL [h])) 0)))) := Lib.hid (by rw [hW3]; exact (World.ownsMap_made _ _ _ _).alloc _)
  have N3 : Hid (Has W3 (W2.heap.size + 1) #[.map (some W2.heap.size)]) := Lib.hid (by rw [hW3]; exact Has.new1 W2 _ _ _)
  have hs3 : W2.heap.size + 2 ≤ W3.heap.size := by rw [hW3]; simp
  have D3 := Lib.hid (next0 B2.out B3.out)
  have CV := Lib.hid (rvars_nil h B W3 (.slice p h.args.length c) (Nat.le_trans hB D3.out.size) (hs.deep D3.out hB) hn hz)
  have CB := Lib.hid (fun NL w' (k : Below w.heap.size w w') (HF : ∀ (w'' : World) (n : ByteArray), Below w'.heap.size w' w'' → n.size ≤ maxLen → Calls Tryz.prog 64 #[.string n, .pointer (some ⟨W2.heap.size + 1, 0, none⟩)] w'' (RepR (renT NL n) w'')) => rinr_nil (W2.heap.size + 1) (renT NL) h B w' (.slice p h.args.length c) (Nat.le_trans hB k.size) (hs.deep k hB) hn (by omega) HF)
  have hmm := @run_makeMap Tryz.prog
  have hmf := @hmf0
  unfold Vrs at CV
  have VV := Lib.hid (fun v (h9 : v ∈ varsOf (leavesL [h])) => var_ok (vars_var v h9))
  clear hs hn hz hB
  generalize varsOf (leavesL [h]) = vs at *
  generalize hm : vs.length = m at *
  have HM := Lib.hid hm
  have NX := Lib.hid (fun k v (h : vs[k]? = some v) => names_next (f := newName pre) h)
  have NM := Lib.hid (fun x (h : x ∈ namesK (newName pre) vs m) => show x.2.size ≤ maxLen from by
    obtain ⟨j, h1, h2, h3⟩ := names_mem h
    rw [h3]
    have := var_ok (hN j h1)
    unfold maxLen
    omega)
  have VN := Lib.hid hN
  have VL := Lib.hid (fun k (h : k < m) => var_ok (hN k h))
  clear hm hN
  have CB1 := Lib.hid (CB.out (namesK (newName pre) vs m))
  generalize hNL : namesK (newName pre) vs = NL at *
  clear hNL
  generalize repT (renT (NL m)) h = u at *
  unfold RuR at CB1
  generalize h.nm = hnm at *
  generalize h.args.length = hl9 at *
  clear CB
  have k1 := H2.out.cell 0
  obtain ⟨y1, y2, y3⟩ := UniA.three (H2.out.step0 B3.out)
  go_enter Tryz.func33, Tryz.ntmps33
  go_upto_region 1 with fail
  rw [← hW2]
  clear hW2
  go_upto_region 2 with fail
  rw [← hW3]
  clear hW3 hmm k1
  go_wp2_with fail
  refine CV.out.mono ?_
  rintro e w4 ⟨v4, base4, rfl, h1, h2, h3⟩
  obtain ⟨a9, c9, rfl⟩ := row_form h1
  have O4 := Lib.hid h1
  have D4 := Lib.hid (next0 D3.out h3)
  have M4 := Lib.hid (M3.out.kept (row := none) ⟨h3.os, h3.tape, h3.output, h3.size, fun i hi _ => h3.block i hi⟩ (by simp))
  have N4 := Lib.hid (N3.out.step0 h3)
  have H4 := Lib.hid ((H2.out.step0 B3.out).step0 h3)
  have E4 := Lib.hid ((E2.out.step0 B3.out).step0 h3)
  have hs4 : W3.heap.size ≤ w4.heap.size := h3.size
  clear h1 h3 y1 y2 y3 M3 N3 CV
  go_wp2_with fail
  go_loopw [14] (fun i wr => ∃ k : Nat, k ≤ m ∧ i = .int .i64 k ∧ Hid (wr.ownsMap Tryz.prog 9 heldE W2.heap.size k (DataOf (namesV (NL k)))) ∧ Hid (Ch W2.heap.size w4 wr)) (fun i _ => m - (intOf i).toNat)
  case atStart => exact ⟨0, Nat.zero_le _, rfl, M4, Lib.hid (Ch.refl _ _)⟩
  case round =>
    obtain ⟨k, hk, rfl, hM, hF⟩ := hrel
    by_cases hlt : k < m
    · obtain ⟨v0, hv0⟩ : ∃ v0, vs[k]? = some v0 := ⟨vs[k]'(by rw [HM.out]; exact hlt), by simp⟩
      have OR : wr.ownsRow base4 9 1 (.slice a9 m c9) vs.length (strs vs) := by
        rw [HM.out]
        exact O4.out.kept hF.out (Or.inr (fun e => by have := (O4.out.lt _ e).1; omega))
      obtain ⟨g, cap, hav, hcell, hgb, hgl⟩ := row_str OR hv0
      injection hav with hav1 hav3 hav2
      subst hav1 hav2
      clear hav3
      have CI : Hid (∀ w', Calls Tryz.prog 63 #[.int .i64 ((k : Int) + 1)] w' fun e w'' => e = .returned (.string ⟨(Lib.decDigits (k + 1)).toArray⟩) ∧ w'' = w') := Lib.hid (fun w' => by
        have := Tryz.strconv_Itoa_small (k + 1) (by omega) w'
        simpa using this)
      have hv16 : (pre ++ ⟨(Lib.decDigits (k + 1)).toArray⟩).size ≤ 16 := VL.out k hlt
      have KV := Lib.hid (fun w' => TermC.var_any (newName pre k) w' (by have := VL.out k hlt; omega))
      have KB9 : Hid (varL (newName pre k).data.toList = true) := Lib.hid (VN.out k hlt)
      rw [KB9.out] at KV
      unfold newName at KV
      have HNX := Lib.hid (NX.out k v0 hv0)
      have hvl9 : v0.size ≤ maxLen := by have := VV.out v0 (List.mem_of_getElem? hv0); unfold maxLen; omega
      have HK : keyOf Tryz.prog 9 (.string v0) = some (.string v0.data.toList) := keyOf_string_mk Tryz.underlying9 hvl9
      have A0 : k < maxLen := by unfold maxLen; omega
      have c6 : wr.cell? ⟨W2.heap.size + 1, 0, none⟩ = some (.map (some W2.heap.size)) := (hF.out.has N4.out (by omega)).cell 0
      clear hv0 OR KB9
      generalize hdg : (⟨(Lib.decDigits (k + 1)).toArray⟩ : ByteArray) = dg at *
      have hv1 : pre.size ≤ 16 := by rw [ByteArray.size_append] at hv16; omega
      have hv2 : dg.size ≤ 16 := by rw [ByteArray.size_append] at hv16; omega
      have HDG : Hid (newName pre k = pre ++ dg) := Lib.hid (by rw [← hdg]; rfl)
      clear hdg
      go_wp2_with fail
      refine (CI.out _).mono ?_
      rintro e w5 ⟨rfl, rfl⟩
      go_wp2_with fail
      refine (KV.out _).mono ?_
      rintro e w5' ⟨rfl, rfl⟩
      go_wp2_with (at_mapUpdate; refine wpList_mapUpdate_own _ rfl _ _ _ 80 rfl 9 9 TermE.law Tryz.underlying80 heldE W2.heap.size k _ rfl hM.out A0 _ _ _ rfl rfl HK _ [] rfl ?_; intro w6 hown6 hgrow6)
      have M6 : Hid (w6.ownsMap Tryz.prog 9 heldE W2.heap.size (k + 1) (DataOf (namesV (NL (k + 1))))) := Lib.hid (by rw [HNX.out, HDG.out]; exact hown6)
      have F6 := Lib.hid (hF.out.trans hgrow6)
      clear hown6 hgrow6
      go_wp2_with fail
      go_roundw
      case rel => (repeat (refine Exists.intro _ ?_)); first | exact ⟨k + 1, by omega, by go_num, M6, F6⟩ | (refine ⟨?_, rfl⟩; exact ⟨k + 1, by omega, by go_num, M6, F6⟩)
      case measure => simp [intOf]; omega
    · obtain rfl : k = m := by omega
      have B5 : Hid (Below W2.heap.size w4 wr) := Lib.hid (hF.out.toBelow (Nat.le_refl _) (by omega))
      have D5 := Lib.hid (D4.out.trans (B5.out.mono (by omega)))
      have H5 := Lib.hid (hF.out.has H4.out (by omega))
      have E5 := Lib.hid (hF.out.has E4.out (by omega))
      have N5 := Lib.hid (hF.out.has N4.out (by omega))
      have CB2 := Lib.hid (CB1.out wr D5.out (fun w'' n k9 hn => renamer_any (NL k) W2.heap.size (W2.heap.size + 1) k n hn NM.out w'' (hM.out.kept (row := none) ⟨k9.os, k9.tape, k9.output, k9.size, fun i hi _ => k9.block i hi⟩ (by simp)) (N5.out.step0 k9)))
      obtain ⟨y1, y2, y3⟩ := UniA.three H5.out
      clear CB1 hF hM
      go_wp2_with fail
      refine CB2.out.mono ?_
      rintro e w7 ⟨q, d, rfl, hS, hnu, k7⟩
      have D7 := Lib.hid (next0 D5.out k7)
      have E7 := Lib.hid (E5.out.step0 k7)
      have S7 := Lib.hid (hS.weaken (ok' := fun b => wr.heap.size ≤ b ∧ b < w7.heap.size) (fun b hb => hb))
      have NU := Lib.hid hnu
      have hsr : w4.heap.size ≤ wr.heap.size := B5.out.size
      clear y1 y2 y3 hS hnu k7 CB2
      obtain ⟨z1, z2, z3⟩ := UniA.three E7.out
      have f1 := E7.out.free 0
      have f2 := E7.out.free 1
      have f3 := E7.out.free 2
      have R8 := put3 E7.out (.string u.nm) (.slice q u.args.length d) (.slice none 0 0)
      obtain ⟨r1, r2, r3⟩ := UniA.three R8
      have D8 := Lib.hid (((D7.out.setCell (p := ⟨w.heap.size + 1, 0, none⟩) (by simp) (.string u.nm)).setCell (p := ⟨w.heap.size + 1, 1, none⟩) (by simp) (.slice q u.args.length d)).setCell (p := ⟨w.heap.size + 1, 2, none⟩) (by simp) (.slice none 0 0))
      have S8 := Lib.hid (S7.out.frame (w' := ((w7.setCell ⟨w.heap.size + 1, 0, none⟩ (.string u.nm)).setCell ⟨w.heap.size + 1, 1, none⟩ (.slice q u.args.length d)).setCell ⟨w.heap.size + 1, 2, none⟩ (.slice none 0 0)) (fun b o hb => by
        rw [cell_far (by show b ≠ w.heap.size + 1; omega), cell_far (by show b ≠ w.heap.size + 1; omega), cell_far (by show b ≠ w.heap.size + 1; omega)]))
      clear R8 E7 D7 S7
      go_wp2_with fail
      refine bodyPost_ret (v := .tuple #[.agg #[.string u.nm, .slice q u.args.length d, .slice none 0 0], .bool true]) (by simp [results, Tryz.results33, go_sem, r1, r2, r3]) rfl ?_
      unfold RnR
      exact ⟨q, d, rfl, S8.out.weaken (fun b hb => ⟨by omega, by simpa [World.setCell] using hb.2⟩), NU.out, D8.out⟩
end UnmI
end Go.Proofs.YtihbnonbhelbmaaGreatDoor
/- The chapter's examples, plain. No conditions. -/
namespace Go.Proofs.YtihbnonbhelbmaaGreatDoor
open Go Go.RowKit
namespace UnmJ
open LexM TermM TermI Kit TermN TermU TermL TermE TermF UniK UniM UniA UniC UniD UniE UniO TermT UnmA UnmE UnmF UnmH UnmI
abbrev tA : Tm := .mk ⟨#[97]⟩ []
abbrev tX : Tm := .mk ⟨#[88]⟩ []
abbrev tY : Tm := .mk ⟨#[89]⟩ []
abbrev p2 (n : ByteArray) (s t : Tm) : Tm := .mk n [s, t]
abbrev nP : ByteArray := ⟨#[112]⟩
abbrev both : List Bd := [(⟨#[88]⟩, tA), (⟨#[89]⟩, tA)]
theorem sort2 : sortB [⟨#[88]⟩, ⟨#[89]⟩] = [⟨#[88]⟩, ⟨#[89]⟩] := by
  unfold sortB
  rw [List.mergeSort_of_pairwise (by simp [lists]; decide)]
  rfl
theorem sort1 : sortB [⟨#[88]⟩] = [⟨#[88]⟩] := by
  unfold sortB
  rw [List.mergeSort_of_pairwise (by simp [lists])]
  rfl
theorem v1 : varsOf (leavesL [p2 nP tX tY, p2 nP tY tA]) = [⟨#[88]⟩, ⟨#[89]⟩] := by kernel_rfl
theorem v2 : varsOf (leavesL [tX, p2 ⟨#[102]⟩ tX tA]) = [⟨#[88]⟩] := by kernel_rfl
theorem v3 : varsOf (leavesL [p2 nP tX tY]) = [⟨#[88]⟩, ⟨#[89]⟩] := by kernel_rfl
theorem u1 : unifyP 9 (p2 nP tX tY) (p2 nP tY tA) = some (some both) := by
  unfold unifyP
  rw [v1, sort2]
  kernel_rfl
theorem u2 : unifyP 9 tX (p2 ⟨#[102]⟩ tX tA) = some none := by
  unfold unifyP
  rw [v2, sort1]
  kernel_rfl
theorem len_le {a b : Tm} {k : Nat} (h : (joinP 9 [] a b).map (fun z => z.1.length) = some k) (hk : k ≤ 1000000) : ∀ D r, joinP 9 [] a b = some (D, r) → D.length ≤ 1000000 := by
  intro D r e
  rw [e] at h
  cases h
  exact hk
theorem l1 : (joinP 9 [] (p2 nP tX tY) (p2 nP tY tA)).map (fun z => z.1.length) = some 3 := by kernel_rfl
theorem l2 : (joinP 9 [] tX (p2 ⟨#[102]⟩ tX tA)).map (fun z => z.1.length) = some 1 := by kernel_rfl
theorem m1 : matchP (p2 nP tX tY) (p2 nP tA tA) [] = some both := by kernel_rfl
theorem a1 : appT [(⟨#[88]⟩, tY), (⟨#[89]⟩, tA)] (p2 nP tX tY) = p2 nP tY tA := by kernel_rfl
theorem d1 : vldS both = true := by kernel_rfl
theorem r1 : repT (renT (namesK (newName ⟨#[86]⟩) [⟨#[88]⟩, ⟨#[89]⟩] 2)) (p2 nP tX tY) = p2 nP (.mk ⟨#[86, 49]⟩ []) (.mk ⟨#[86, 50]⟩ []) := by kernel_rfl
theorem n1 : varB (newName ⟨#[86]⟩ 0) = true ∧ varB (newName ⟨#[86]⟩ 1) = true := ⟨by kernel_rfl, by kernel_rfl⟩
theorem ok_of {t : Tm} {m k : Nat} (h0 : t.nm.size ≤ 16) (h1 : (textT t).length = m) (h2 : sizeT t = k) (h3 : m ≤ 1000000) (h4 : k ≤ 1000000) : Ok t := ⟨by unfold maxLen; omega, by omega, by omega⟩
theorem okX : Ok tX := ok_of (m := 1) (k := 1) (by decide) (by kernel_rfl) (by kernel_rfl) (by decide) (by decide)
theorem okP : Ok (p2 nP tX tY) := ok_of (m := 6) (k := 3) (by decide) (by kernel_rfl) (by kernel_rfl) (by decide) (by decide)
theorem okQ : Ok (p2 nP tY tA) := ok_of (m := 6) (k := 3) (by decide) (by kernel_rfl) (by kernel_rfl) (by decide) (by decide)
theorem okF : Ok (p2 ⟨#[102]⟩ tX tA) := ok_of (m := 6) (k := 3) (by decide) (by kernel_rfl) (by kernel_rfl) (by decide) (by decide)
end UnmJ
end Go.Proofs.YtihbnonbhelbmaaGreatDoor
/- The listed variable of layer 1's rows (the bytes that end names): a world that holds it, and what a row's list gives a walk. No conditions. -/
namespace Go.Proofs.YtihbnonbhelbmaaGreatDoor
open Go Go.RowKit Go.ChangeShapes Go.WideShapes Go.ChangeAt
namespace TermJ
open TermT
abbrev list : List (String × DataW Unit) := [("gameplayer/term.nameEnds", Rows.laid_gameplayer_term_nameEnds)]
noncomputable def lay1 (w : World) (g : Nat) (cs : Array Value) : World :=
  { w with heap := w.heap.modify g fun
      | .cells _ t frozen => .cells cs t frozen
      | o => o }
noncomputable def laidWorld (os : Os) : World :=
  lay1 (World.holding Tryz.prog os ⟨#[], #[], []⟩) 0 #[.int .u8 40, .int .u8 44, .int .u8 41]
theorem laid_met_gen (os : Os) (args : Array Value) : laidMet Tryz.prog list ((laidWorld os).forCall (fun _ _ => 0) ⟨#[], args, []⟩).memory :=
  laidMet_of_run' 8 (by kernel_rfl) (by kernel_rfl)
theorem ints {H : Type} {enc : TypeId × Value → H} {P : Program} {w : World} {base : Nat} {sp : Nat → Bool} {held : Bool} {fuel : Nat} {t e : TypeId} {n : Nat} {cs : List Value} {ls : List Int} {p : List MemPlace}
    (ht : P.underlying t = some (.array n e)) (he : P.underlying e = some (.int .u8)) (hce : P.cellsOf e = 1) (hct : P.cellsOf t = n)
    (h : DataW.trod enc P w base sp held fuel t cs = some (.agg (ls.map fun l => .lit (.int .u8 l)), p)) : cs = ls.map fun l => Value.int .u8 l := by
  obtain ⟨xs, m, _, hx, hlen, hxl, hall⟩ := DataW.trod_array ht h
  have hxs : xs.map (·.1) = ls.map fun l => (DataW.lit (.int .u8 l) : DataW H) := by
    have := congrArg Prod.fst hx
    simpa using this.symm
  have hll : ls.length = n := by
    have := congrArg List.length hxs
    simp at this
    omega
  apply List.ext_getElem?
  intro i
  by_cases hi : i < n
  · obtain ⟨b, hb⟩ : ∃ b, xs[i]? = some b := ⟨xs[i]'(by omega), by simp⟩
    have hf := hall i hi
    rw [hb, hce, Nat.mul_one] at hf
    obtain ⟨s, hc, rfl, _⟩ := DataW.trod_int he hf
    have h1 : cs[i]? = some (.int .u8 s) := by
      have := congrArg (·[0]?) hc
      simpa [List.getElem?_take, List.getElem?_drop] using this
    have h2 : (xs.map (·.1))[i]? = some (DataW.lit (.int .u8 s) : DataW H) := by simp [hb]
    rw [hxs] at h2
    simp only [List.getElem?_map, Option.map_eq_some_iff, DataW.lit.injEq, Lit.int.injEq] at h2
    obtain ⟨l, hl, _, hls⟩ := h2
    rw [h1, List.getElem?_map, hl, hls]
    rfl
  · rw [List.getElem?_eq_none (by omega), List.getElem?_eq_none (by simp; omega)]
theorem gEnds : Tryz.prog.globalNamed "gameplayer/term.nameEnds" = some 0 := by kernel_rfl
theorem ends_gen {W : World} (h : laidMetH Tryz.prog list W) : Wd W := by
  have h1 : laidMet Tryz.prog list W := h
  obtain ⟨ps, ⟨g', t', cs, fuel, p, q, hg', ht', hvar, hd, _, _⟩, _⟩ := h1
  obtain rfl := Option.some.inj (gEnds.symm.trans hg')
  obtain rfl := Option.some.inj ((show (Tryz.prog.globals[0]?).map (·.type) = some 144 by kernel_rfl).symm.trans ht')
  have hc := ints (ls := [40, 44, 41]) Tryz.underlying144 Tryz.underlying5 (by kernel_rfl) (by kernel_rfl) hd
  have c0 := World.var?_cell gEnds hvar 0
  have c1 := World.var?_cell gEnds hvar 1
  have c2 := World.var?_cell gEnds hvar 2
  have e : cs = #[.int .u8 40, .int .u8 44, .int .u8 41] := Array.ext' hc
  rw [e] at c0 c1 c2
  exact ⟨World.block_lt_of_cell? W _ c0, c0, c1, c2⟩
end TermJ
end Go.Proofs.YtihbnonbhelbmaaGreatDoor
