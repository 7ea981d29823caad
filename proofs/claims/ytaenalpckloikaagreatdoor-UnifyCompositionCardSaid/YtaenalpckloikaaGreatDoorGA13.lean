/- Texts laid together: UnmA; UnmB; UnmC. Their own heads stand before each. -/
import Derived.Test.YtaenalpckloikaaGreatDoorGA9
import Derived.Test.YtaenalpckloikaaGreatDoorGA10
import Derived.Maps.OwnSet
import Derived.Deep.LoopGhost
import Derived.Test.YtaenalpckloikaaGreatDoorGA3
import Derived.Deep.RegionLaw
import Derived.Deep.RegionWith
import Derived.Deep.DeepCutAuto
import Derived.BigQuiet
/- Classes of terms as plain data, with fuel; and a map of the call's own whose elements are held as they are. No conditions. -/
namespace Go.Proofs.YtaenalpckloikaaGreatDoor
open Go Go.RowKit Go.Maps Go.WideMaps
namespace UnmA
open LexM TermM TermI Kit TermN TermU UniM UniG TermT
abbrev Ky := List UInt8
def lookK {α : Type} (L : List (Ky × α)) (s : Ky) : Option α := (L.find? fun x => x.1 == s).map (·.2)
theorem lookK_cons {α : Type} (x : Ky × α) (L : List (Ky × α)) (s : Ky) : lookK (x :: L) s = if x.1 = s then some x.2 else lookK L s := by
  unfold lookK
  rw [List.find?_cons]
  by_cases h : x.1 = s
  · rw [if_pos h, beq_iff_eq.2 h]; rfl
  · rw [if_neg h, beq_eq_false_iff_ne.2 h]
theorem lookK_map {α β : Type} (f : α → β) (L : List (Ky × α)) (s : Ky) : lookK (L.map fun x => (x.1, f x.2)) s = (lookK L s).map f := by
  induction L with
  | nil => rfl
  | cons x L ih =>
    rw [List.map_cons, lookK_cons, lookK_cons, ih]
    by_cases h : x.1 = s
    · rw [if_pos h, if_pos h]; rfl
    · rw [if_neg h, if_neg h]
theorem lookK_mem {α : Type} {L : List (Ky × α)} {s : Ky} {x : α} (h : lookK L s = some x) : (s, x) ∈ L := by
  induction L with
  | nil => cases h
  | cons y L ih =>
    rw [lookK_cons] at h
    by_cases c : y.1 = s
    · rw [if_pos c] at h
      cases h
      rw [← c]
      exact List.mem_cons_self
    · rw [if_neg c] at h
      exact List.mem_cons_of_mem _ (ih h)
/-- What a map reads as, the latest entry first. -/
def DataOf (L : List (Ky × Value)) : DataW Value := L.foldr (fun x D => D.put (.string x.1) (.held x.2)) (.map [])
def heldE : Value → Option (DataW Value × List MemPlace) := fun v => some (.held v, [])
theorem data_map : ∀ L, IsMap (DataOf L)
  | [] => isMap_empty
  | _ :: L => (data_map L).put _ _
theorem has_data (s : Ky) : ∀ L, Maps.has (DataOf L) (.string s) = (lookK L s).isSome
  | [] => rfl
  | x :: L => by
    rw [lookK_cons]
    by_cases h : x.1 = s
    · rw [if_pos h, ← h]
      exact has_put_same (data_map L) (show WideAt.IsKeyLit (.string x.1) from trivial) _
    · rw [if_neg h, ← has_data s L]
      exact has_put_other (by intro e; injection e with e; exact h e.symm) _
theorem at_data (s : Ky) (z : Value) : ∀ L, (DataOf L).atKey (.string s) (.held z) = .held ((lookK L s).getD z)
  | [] => rfl
  | x :: L => by
    rw [lookK_cons]
    by_cases h : x.1 = s
    · rw [if_pos h, ← h]
      exact atKey_put_same (data_map L) (show WideAt.IsKeyLit (.string x.1) from trivial) _ _
    · rw [if_neg h, ← at_data s z L]
      exact atKey_put_other (by intro e; injection e with e; exact h e.symm) _ _
set_option maxRecDepth 100000 in
theorem look_held {w : World} {b n : Nat} {L : List (Ky × Value)} {t e : TypeId} {z : Value} (h : w.ownsMap Tryz.prog 9 heldE b n (DataOf L)) (ht : Tryz.prog.underlying t = some (.map 9 e)) (hz : (zeroValue e).run Tryz.prog w = .ok z w) (s : ByteArray) (hs : s.size ≤ maxLen) :
    (Instr.lookup t (.map (some b)) (.string s) true).run Tryz.prog w = .ok (.tuple #[(lookK L s.data.toList).getD z, .bool (lookK L s.data.toList).isSome]) w := by
  obtain ⟨v, ps, hrun, hv⟩ := h.look_ok TermE.law ht hz (show heldE z = some (.held z, []) from rfl) (keyOf_string_mk Tryz.underlying9 hs)
  rw [at_data] at hv
  rw [has_data] at hrun
  unfold heldE at hv
  injection hv with hv
  injection hv with hv _
  injection hv with hv
  rw [hrun, hv]
/-! ### The plain functions -/
abbrev Cls := List (Ky × Tm)
def leadP (D : Cls) : Nat → Tm → Option Tm
  | 0, _ => none
  | n + 1, t => match lookK D (textT t) with
    | none => some t
    | some u => leadP D n u
def ledB (a b : Tm) : Bool := isV b && (!isV a || ltB a.nm b.nm)
def joinA (f : Cls → Tm → Tm → Option (Cls × Bool)) : Cls → List Tm → List Tm → Option (Cls × Bool)
  | D, x :: xs, y :: ys => match f D x y with
    | none => none
    | some (D', false) => some (D', false)
    | some (D', true) => joinA f D' xs ys
  | D, _, _ => some (D, true)
def headE (x y : Tm) : Bool := eqB x.nm y.nm && decide (x.args.length = y.args.length)
def joinB (f : Cls → Tm → Tm → Option (Cls × Bool)) (D : Cls) (x y : Tm) : Option (Cls × Bool) :=
  if isV y = true then some ((textT y, x) :: D, true) else if headE x y = true then joinA f ((textT y, x) :: D) x.args y.args else some ((textT y, x) :: D, false)
def joinP : Nat → Cls → Tm → Tm → Option (Cls × Bool)
  | 0, _, _, _ => none
  | n + 1, D, a, b => (leadP D n a).bind fun a => (leadP D n b).bind fun b =>
    if cmpT a b = 0 then some (D, true) else if ledB b a = true then joinB (joinP n) D b a else joinB (joinP n) D a b
def mapO {α β : Type} (f : α → Option β) : List α → Option (List β)
  | [] => some []
  | x :: l => (f x).bind fun y => (mapO f l).map fun r => y :: r
def resP (D : Cls) (n : Nat) : Nat → Tm → Option Tm
  | 0, t => (leadP D n t).map fun l => .mk l.nm []
  | d + 1, t => (leadP D n t).bind fun l => (mapO (resP D n d) l.args).map fun r => .mk l.nm r
def solP (D : Cls) (n : Nat) : List ByteArray → Option (List Bd)
  | [] => some []
  | v :: l => (resP D n 4 (.mk v [])).bind fun t => (solP D n l).map fun s => if eqB t.nm v = true then s else (v, t) :: s
/-- Is it a term whose text can be had? -/
def Ok (t : Tm) : Prop := t.nm.size ≤ maxLen ∧ (textT t).length ≤ 1000000 ∧ sizeT t ≤ 1000000
theorem Ok.arg {t x : Tm} (h : Ok t) (hx : x ∈ t.args) (hn : x.nm.size ≤ maxLen) : Ok x := by
  obtain ⟨n, l⟩ := t
  obtain ⟨_, h1, h2⟩ := h
  obtain ⟨i, hi⟩ := List.mem_iff_getElem?.1 hx
  have h3 := (text_get hi).1
  have hne : l.isEmpty = false := by cases l with | nil => cases hx | cons a r => rfl
  refine ⟨hn, ?_, ?_⟩
  · simp only [Tm.args] at hi h3
    have h4 : (textT (.mk n l)).length = n.data.toList.length + (1 + (((tailT l).drop 1).length + 1)) := by
      simp [textT, hne]
      omega
    rw [List.length_drop] at h4
    omega
  · have h5 : sizeT (.mk n l) = 1 + sizeL l := by simp only [sizeT]; omega
    have h6 := UniD.size_mem hx
    simp only [Tm.args] at h6
    omega
theorem joinA_len {f : Cls → Tm → Tm → Option (Cls × Bool)} (hf : ∀ D x y D' r, f D x y = some (D', r) → D.length ≤ D'.length) : ∀ xs ys D D' r, joinA f D xs ys = some (D', r) → D.length ≤ D'.length
  | [], ys, D, D', r, h => by cases ys <;> (cases h; exact Nat.le_refl _)
  | x :: xs, [], D, D', r, h => by cases h; exact Nat.le_refl _
  | x :: xs, y :: ys, D, D', r, h => by
    unfold joinA at h
    cases he : f D x y with
    | none => rw [he] at h; cases h
    | some z =>
      obtain ⟨D1, b⟩ := z
      have h1 := hf _ _ _ _ _ he
      rw [he] at h
      cases b
      · cases h; exact h1
      · exact Nat.le_trans h1 (joinA_len hf xs ys D1 D' r h)
theorem joinB_len {f : Cls → Tm → Tm → Option (Cls × Bool)} (hf : ∀ D x y D' r, f D x y = some (D', r) → D.length ≤ D'.length) {D : Cls} {x y : Tm} {D' : Cls} {r : Bool} (h : joinB f D x y = some (D', r)) : D.length + 1 ≤ D'.length := by
  unfold joinB at h
  split at h
  · cases h; simp
  · split at h
    · have := joinA_len hf _ _ _ _ _ h
      simpa using this
    · cases h; simp
theorem joinP_len : ∀ n D a b D' r, joinP n D a b = some (D', r) → D.length ≤ D'.length
  | 0, D, a, b, D', r, h => by cases h
  | n + 1, D, a, b, D', r, h => by
    unfold joinP at h
    cases ha : leadP D n a with
    | none => rw [ha] at h; cases h
    | some x =>
      cases hb : leadP D n b with
      | none => rw [ha, hb] at h; cases h
      | some y =>
        rw [ha, hb] at h
        simp only [Option.bind_some] at h
        split at h
        · cases h; exact Nat.le_refl _
        · split at h
          · have := joinB_len (joinP_len n) h; omega
          · have := joinB_len (joinP_len n) h; omega
/-! ### In memory -/
/-- Block bm is the map of the classes; their terms lie below B. -/
def Cl (w : World) (bm B : Nat) (D : Cls) : Prop :=
  ∃ L : List (Ky × Tm × Value), D = L.map (fun x => (x.1, x.2.1)) ∧ w.ownsMap Tryz.prog 9 heldE bm D.length (DataOf (L.map fun x => (x.1, Value.agg #[.string x.2.1.nm, x.2.2]))) ∧ (∀ x ∈ L, SlIn (· < B) w x.2.1.args x.2.2 ∧ Ok x.2.1)
theorem Cl.lt {w : World} {bm B : Nat} {D : Cls} (h : Cl w bm B D) : bm < w.heap.size := by
  obtain ⟨L, _, h, _⟩ := h
  exact h.lt
theorem Cl.made (w : World) (B : Nat) : Cl (w.alloc (.map #[] 0)) w.heap.size B [] :=
  ⟨[], rfl, World.ownsMap_made _ _ _ _, fun x hx => by cases hx⟩
theorem Cl.keep {w w' : World} {bm B : Nat} {D : Cls} (h : Cl w bm B D) (hb : Below w.heap.size w w') (hB : B ≤ w.heap.size) : Cl w' bm B D := by
  have hl := h.lt
  obtain ⟨L, h1, h2, h3⟩ := h
  exact ⟨L, h1, h2.kept (row := none) ⟨hb.os, hb.tape, hb.output, hb.size, fun i hi _ => hb.block i hi⟩ (by simp), fun x hx => ⟨(h3 x hx).1.deep hb hB, (h3 x hx).2⟩⟩
/-- What a look-up answers. -/
theorem Cl.look {w : World} {bm B : Nat} {D : Cls} (h : Cl w bm B D) {t : TypeId} (ht : Tryz.prog.underlying t = some (.map 9 27)) (x : Tm) (hx : (textT x).length ≤ maxLen) :
    ∃ v, (Instr.lookup t (.map (some bm)) (.string ⟨(textT x).toArray⟩) true).run Tryz.prog w = .ok (.tuple #[v, .bool (lookK D (textT x)).isSome]) w ∧ (lookK D (textT x) = none → v = .agg #[.string ⟨#[]⟩, .slice none 0 0]) ∧ (∀ u, lookK D (textT x) = some u → ∃ uv, v = .agg #[.string u.nm, uv] ∧ SlIn (· < B) w u.args uv ∧ Ok u) := by
  obtain ⟨L, rfl, h2, h3⟩ := h
  have LK := look_held (z := .agg #[.string ⟨#[]⟩, .slice none 0 0]) h2 ht (by kernel_rfl) ⟨(textT x).toArray⟩ hx
  simp only [lookK_map (fun x : Tm × Value => Value.agg #[.string x.1.nm, x.2])] at LK
  simp only [lookK_map (fun x : Tm × Value => x.1)]
  rw [Option.isSome_map] at LK ⊢
  refine ⟨_, LK, ?_, ?_⟩
  · intro hn
    rw [Option.map_eq_none_iff] at hn
    rw [hn]
    rfl
  · intro u hu
    rw [Option.map_eq_some_iff] at hu
    obtain ⟨y, hy, rfl⟩ := hu
    rw [hy]
    exact ⟨y.2, rfl, (h3 _ (lookK_mem hy)).1, (h3 _ (lookK_mem hy)).2⟩
end UnmA
end Go.Proofs.YtaenalpckloikaaGreatDoor
/- leads and leader of the code's classes. Conditions: the map's terms have texts of at most a million bytes; the variable nameEnds holds its bytes. -/
namespace Go.Proofs.YtaenalpckloikaaGreatDoor
open Go Go.RowKit Go.Maps Go.WideMaps
namespace UnmB
open LexM TermM TermI Kit TermN TermU UniM UniG UniL UniD TermT UnmA
set_option maxRecDepth 100000 in
set_option maxHeartbeats 3200000 in
theorem leads_any (a b : Tm) (p q : Option Addr) (c d : Nat) (w : World) (ha : a.nm.size ≤ maxLen) (hb : b.nm.size ≤ maxLen) :
    Calls Tryz.prog 84 #[.agg #[.string a.nm, .slice p a.args.length c], .agg #[.string b.nm, .slice q b.args.length d]] w fun e w' => e = .returned (.bool (ledB a b)) ∧ Gr w w' := by
  have KA := Lib.hid (fun w' => cvar_t a p c w' ha)
  have KB := Lib.hid (fun w' => cvar_t b q d w' hb)
  obtain ⟨z, hz⟩ : ∃ z, Op.bytesLess a.nm.toList b.nm.toList = z := ⟨_, rfl⟩
  have HZ : ltB a.nm b.nm = z := by unfold ltB; rw [← hz, ByteArray.toList_eq, ByteArray.toList_eq]
  have E : ledB a b = (isV b && (!isV a || z)) := by unfold ledB; rw [HZ]
  rw [E]
  clear E HZ ha hb
  obtain ⟨W2, hW2⟩ : ∃ W2, W2 = (w.alloc (.cells #[.string a.nm, .slice p a.args.length c] 27)).alloc (.cells #[.string b.nm, .slice q b.args.length d] 27) := ⟨_, rfl⟩
  have G2 : Hid (Gr w W2) := Lib.hid (by rw [hW2]; exact (Gr.alloc _ _).more _)
  have H2 : Hid (Has W2 w.heap.size #[.string a.nm, .slice p a.args.length c]) := Lib.hid (by rw [hW2]; exact (Has.new w _ _).alloc _)
  have T2 : Hid (Has W2 (w.heap.size + 1) #[.string b.nm, .slice q b.args.length d]) := Lib.hid (by rw [hW2]; exact Has.new1 w _ _ _)
  have HH := Lib.hid (fun w' (k : Below W2.heap.size W2 w') => And.intro (H2.out.step0 k).two (T2.out.step0 k).two)
  clear H2 T2
  generalize isV a = x at *
  generalize isV b = y at *
  generalize a.nm = an at *
  generalize b.nm = bn at *
  generalize a.args.length = al at *
  generalize b.args.length = bl at *
  obtain ⟨⟨y1, y2, _⟩, z1, z2, _⟩ := HH.out _ (Below.refl _ _)
  go_enter Tryz.func84, Tryz.ntmps84
  go_upto_region 1 with fail
  rw [← hW2]
  clear hW2
  go_wp2_with fail
  refine (KB.out _).mono ?_
  rintro e w3 ⟨rfl, g3⟩
  obtain ⟨⟨y3, y4, _⟩, z3, z4, _⟩ := HH.out _ g3.1
  have D3 := Lib.hid (G2.out.trans g3)
  cases y
  · clear KA y1 y2 z1 z2 g3
    go_wp2_with fail
    go_ret
    exact ⟨rfl, D3.out⟩
  · clear y1 y2 z1 z2
    have S3 := Lib.hid g3
    clear g3
    go_wp2_with fail
    refine (KA.out _).mono ?_
    rintro e w4 ⟨rfl, g4⟩
    obtain ⟨⟨y5, y6, _⟩, z5, z6, _⟩ := HH.out _ (S3.out.trans g4).1
    have D4 := Lib.hid (D3.out.trans g4)
    clear y3 y4 z3 z4 g4 S3 KA KB
    cases x
    · go_wp2_with fail
      go_ret
      exact ⟨rfl, D4.out⟩
    · go_wp2_with fail
      go_ret
      exact ⟨rfl, D4.out⟩
/-- A term, in memory below B. -/
def TmR (r : Tm) (B : Nat) (w : World) (e : Ending) (w' : World) : Prop :=
  ∃ (p : Option Addr) (c : Nat), e = .returned (.agg #[.string r.nm, .slice p r.args.length c]) ∧ SlIn (· < B) w' r.args (.slice p r.args.length c) ∧ Ok r ∧ Below w.heap.size w w'
theorem put_agg {w : World} {g : Nat} {a b : Value} (h : Has w g #[a, b]) (u v : Value) : Has ((w.setCell ⟨g, 0, none⟩ u).setCell ⟨g, 1, none⟩ v) g #[u, v] := (h.set 0 u).set 1 v
theorem far_agg {w : World} {g k : Nat} {cs : Array Value} (hne : g ≠ k) (h : Has w g cs) (u v : Value) : Has ((w.setCell ⟨k, 0, none⟩ u).setCell ⟨k, 1, none⟩ v) g cs := (h.far (p := ⟨k, 0, none⟩) hne u).far (p := ⟨k, 1, none⟩) hne v
theorem slin_far {w : World} {B k : Nat} {l : List Tm} {v : Value} (h : SlIn (· < B) w l v) (hk : B ≤ k) (a b : Value) : SlIn (· < B) ((w.setCell ⟨k, 0, none⟩ a).setCell ⟨k, 1, none⟩ b) l v :=
  h.frame fun g o hg => by rw [cell_far (by show g ≠ k; omega), cell_far (by show g ≠ k; omega)]
set_option maxRecDepth 100000 in
set_option maxHeartbeats 6400000 in
theorem leader_any (D : Cls) (n : Nat) (t r : Tm) (hr : leadP D n t = some r) (B bm : Nat) (w : World) (sv : Value) (hw : Wd w) (hB : B ≤ w.heap.size) (hC : Cl w bm B D) (h : SlIn (· < B) w t.args sv) (ht : Ok t) :
    Calls Tryz.prog 83 #[.map (some bm), .agg #[.string t.nm, sv]] w (TmR r B w) := by
  obtain ⟨p, c, rfl⟩ := h.form
  obtain ⟨W2, hW2⟩ : ∃ W2, W2 = (w.alloc (.cells #[.string t.nm, .slice p t.args.length c] 27)).alloc (.cells #[.string ⟨#[]⟩, .slice none 0 0] 27) := ⟨_, rfl⟩
  have G2 : Hid (Gr w W2) := Lib.hid (by rw [hW2]; exact (Gr.alloc _ _).more _)
  have hs2 : w.heap.size + 2 ≤ W2.heap.size := by rw [hW2]; simp
  have H2 : Hid (Has W2 w.heap.size #[.string t.nm, .slice p t.args.length c]) := Lib.hid (by rw [hW2]; exact (Has.new w _ _).alloc _)
  have E2 : Hid (Has W2 (w.heap.size + 1) #[.string ⟨#[]⟩, .slice none 0 0]) := Lib.hid (by rw [hW2]; exact Has.new1 w _ _ _)
  have S2 := Lib.hid (h.gr G2.out hB)
  have CT := Lib.hid (fun (u : Tm) w' sv (k : Below w.heap.size w w') (h : SlIn (· < B) w' u.args sv) (o : Ok u) => text_any u B w' sv (hw.below k hw.1) (Nat.le_trans hB k.size) h (by have := o.2.1; omega))
  have LK := Lib.hid (fun (u : Tm) w' (k : Below w.heap.size w w') (o : Ok u) => (hC.keep k hB).look Tryz.underlying72 u (by have := o.2.1; unfold maxLen; omega))
  have HT := Lib.hid ht
  have HB := Lib.hid hB
  have HR0 := Lib.hid hr
  clear hC h ht hw hB hr
  unfold TmR
  go_enter Tryz.func83, Tryz.ntmps83
  go_wp2_with fail
  rw [← hW2]
  clear hW2
  go_loopg [] n (fun k wr => ∃ (u : Tm) (q : Option Addr) (d : Nat), leadP D k u = some r ∧ Hid (Has wr w.heap.size #[.string u.nm, .slice q u.args.length d]) ∧ Hid (SlIn (· < B) wr u.args (.slice q u.args.length d)) ∧ Hid (Ok u) ∧ Hid (Has wr (w.heap.size + 1) #[.string ⟨#[]⟩, .slice none 0 0]) ∧ Hid (Below w.heap.size w wr) ∧ w.heap.size + 2 ≤ wr.heap.size)
  case atStart => exact ⟨t, p, c, HR0.out, H2, S2, HT, E2, Lib.hid G2.out.1, hs2⟩
  case round =>
    obtain ⟨u, q, d, hl, HU, SU, OU, EU, DU, hsz⟩ := hrel
    cases gk with
    | zero => simp [leadP] at hl
    | succ k =>
      unfold leadP at hl
      obtain ⟨y1, y2, _⟩ := HU.out.two
      have CT1 := Lib.hid (CT.out u _ _ DU.out SU.out OU.out)
      go_wp2_with fail
      refine CT1.out.mono ?_
      rintro e w3 ⟨rfl, k3⟩
      have D3 := Lib.hid (next0 DU.out k3)
      have H3 := Lib.hid (HU.out.step0 k3)
      have E3 := Lib.hid (EU.out.step0 k3)
      have S3 := Lib.hid (SU.out.deep k3 (Nat.le_trans HB.out DU.out.size))
      have hs3 : w.heap.size + 2 ≤ w3.heap.size := Nat.le_trans hsz k3.size
      obtain ⟨v, hrun, hv0, hv1⟩ := LK.out u w3 D3.out OU.out
      clear y1 y2 k3 CT1 HU EU SU DU
      cases hk : lookK D (textT u) with
      | none =>
        rw [hk] at hl hrun
        obtain rfl : u = r := by simpa using hl
        obtain rfl := hv0 hk
        simp only [Option.isSome_none] at hrun
        clear hv0 hv1 hk hl LK CT
        obtain ⟨W4, hW4⟩ : ∃ W4, W4 = w3.alloc (.cells #[.string ⟨#[]⟩, .slice none 0 0] 27) := ⟨_, rfl⟩
        have H4 : Hid (Has W4 w.heap.size #[.string u.nm, .slice q u.args.length d]) := Lib.hid (by rw [hW4]; exact H3.out.alloc _)
        have E4 : Hid (Has W4 (w.heap.size + 1) #[.string ⟨#[]⟩, .slice none 0 0]) := Lib.hid (by rw [hW4]; exact E3.out.alloc _)
        have D4 : Hid (Below w.heap.size w W4) := Lib.hid (by rw [hW4]; exact next0 D3.out (below_alloc _ _))
        have S4 : Hid (SlIn (· < B) W4 u.args (.slice q u.args.length d)) := Lib.hid (by rw [hW4]; exact S3.out.deep (below_alloc _ _) (Nat.le_trans HB.out D3.out.size))
        obtain ⟨y1, y2, _⟩ := H4.out.two
        obtain ⟨x1, x2, x3, x4, x5⟩ := E4.out.two
        have r := put_agg E4.out (.string u.nm) (.slice q u.args.length d)
        have r1 := r.cell 0
        have r2 := r.cell 1
        simp only [List.getElem?_toArray, List.getElem?_cons_zero, List.getElem?_cons_succ] at r1 r2
        have D5 := Lib.hid ((D4.out.setCell (p := ⟨w.heap.size + 1, 0, none⟩) (by simp) (.string u.nm)).setCell (p := ⟨w.heap.size + 1, 1, none⟩) (by simp) (.slice q u.args.length d))
        have S5 := Lib.hid (slin_far S4.out (show B ≤ w.heap.size + 1 by have := HB.out; omega) (.string u.nm) (.slice q u.args.length d))
        clear r H3 E3 D3 S3 H4 E4 D4 S4
        go_upto_region 2 with fail
        rw [← hW4]
        clear hW4
        go_wp2_with fail
        refine bodyPost_ret (v := .agg #[.string u.nm, .slice q u.args.length d]) (by simp [results, Tryz.results83, go_sem, r1, r2]) rfl ?_
        exact ⟨q, d, rfl, S5.out, OU.out, D5.out⟩
      | some u' =>
        rw [hk] at hl hrun
        obtain ⟨uv, rfl, hsu, hou⟩ := hv1 u' hk
        obtain ⟨q', d', rfl⟩ := hsu.form
        simp only [Option.isSome_some] at hrun
        have SU' := Lib.hid hsu
        have OU' := Lib.hid hou
        clear hv0 hv1 hk hsu hou
        obtain ⟨W4, hW4⟩ : ∃ W4, W4 = w3.alloc (.cells #[.string u'.nm, .slice q' u'.args.length d'] 27) := ⟨_, rfl⟩
        have N4 : Hid (Has W4 w3.heap.size #[.string u'.nm, .slice q' u'.args.length d']) := Lib.hid (by rw [hW4]; exact Has.new _ _ _)
        have H4 : Hid (Has W4 w.heap.size #[.string u.nm, .slice q u.args.length d]) := Lib.hid (by rw [hW4]; exact H3.out.alloc _)
        have E4 : Hid (Has W4 (w.heap.size + 1) #[.string ⟨#[]⟩, .slice none 0 0]) := Lib.hid (by rw [hW4]; exact E3.out.alloc _)
        have D4 : Hid (Below w.heap.size w W4) := Lib.hid (by rw [hW4]; exact next0 D3.out (below_alloc _ _))
        have hs4 : w3.heap.size + 1 = W4.heap.size := by rw [hW4]; simp
        have S4 : Hid (SlIn (· < B) W4 u'.args (.slice q' u'.args.length d')) := Lib.hid (by rw [hW4]; exact SU'.out.deep (below_alloc _ _) (Nat.le_trans HB.out D3.out.size))
        obtain ⟨y1, y2, _⟩ := N4.out.two
        obtain ⟨x1, x2, x3, x4, x5⟩ := H4.out.two
        have H5 := Lib.hid (put_agg H4.out (.string u'.nm) (.slice q' u'.args.length d'))
        have E5 := Lib.hid (far_agg (k := w.heap.size) (by omega) E4.out (.string u'.nm) (.slice q' u'.args.length d'))
        have D5 := Lib.hid ((D4.out.setCell (p := ⟨w.heap.size, 0, none⟩) (by simp) (.string u'.nm)).setCell (p := ⟨w.heap.size, 1, none⟩) (by simp) (.slice q' u'.args.length d'))
        have S5 := Lib.hid (slin_far S4.out (show B ≤ w.heap.size by exact HB.out) (.string u'.nm) (.slice q' u'.args.length d'))
        clear H3 E3 D3 S3 H4 E4 D4 S4 N4 SU'
        go_upto_region 2 with fail
        rw [← hW4]
        clear hW4
        go_wp2_with fail
        go_roundg k
        case measure => omega
        case rel => exact ⟨u', q', d', hl, H5, S5, OU', E5, D5, by simp [World.setCell]; omega⟩
end UnmB
end Go.Proofs.YtaenalpckloikaaGreatDoor
/- join of the code's classes. Conditions: texts of at most a million bytes, at most a million entries; the variable nameEnds holds its bytes. -/
namespace Go.Proofs.YtaenalpckloikaaGreatDoor
open Go Go.RowKit Go.Maps Go.WideMaps
namespace UnmC
open LexM TermM TermI Kit TermN TermU UniK UniM UniG UniL UniD TermT UnmA UnmB
theorem slin_c {bm B : Nat} {w w' : World} {l : List Tm} {v : Value} (h : SlIn (· < B) w l v) (g : Ch bm w w') (hB : B ≤ bm) (hs : B ≤ w.heap.size) : SlIn (· < B) w' l v :=
  h.frame fun b o hb => g.cell (by omega) (by omega)
theorem wd_c {bm : Nat} {w w' : World} (h : Wd w) (g : Ch bm w w') (hg : 0 < bm) : Wd w' :=
  ⟨Nat.lt_of_lt_of_le h.1 g.size, (g.cell h.1 (by omega)).trans h.2.1, (g.cell h.1 (by omega)).trans h.2.2.1, (g.cell h.1 (by omega)).trans h.2.2.2⟩
set_option maxRecDepth 100000 in
theorem cl_put {w : World} {bm B : Nat} {D : Cls} (h : Cl w bm B D) (hB : B ≤ bm) (hl : D.length < 1000000) {x y : Tm} {xv : Value} (hx : SlIn (· < B) w x.args xv) (ox : Ok x) (oy : Ok y) :
    ∃ w', (Instr.mapUpdate 72 (.map (some bm)) (.string ⟨(textT y).toArray⟩) (.agg #[.string x.nm, xv])).run Tryz.prog w = .ok () w' ∧ Cl w' bm B ((textT y, x) :: D) ∧ Ch bm w w' := by
  have hbm := h.lt
  obtain ⟨L, rfl, h2, h3⟩ := h
  obtain ⟨w', e1, e2, e3⟩ := h2.update TermE.law Tryz.underlying72 (by unfold maxLen; omega) (keyOf_string_mk Tryz.underlying9 (s := ⟨(textT y).toArray⟩) (by have := oy.2.1; unfold maxLen; exact (show (textT y).length ≤ _ by omega))) (show heldE (.agg #[.string x.nm, xv]) = some (.held _, []) from rfl)
  refine ⟨w', e1, ⟨(textT y, x, xv) :: L, rfl, ?_, fun z hz => ?_⟩, e3⟩
  · rw [List.map_cons, List.length_cons]; exact e2
  · rcases List.mem_cons.1 hz with rfl | hz
    · exact ⟨slin_c hx e3 hB (by omega), ox⟩
    · exact ⟨slin_c (h3 z hz).1 e3 hB (by omega), (h3 z hz).2⟩
theorem cl_ch {bm : Nat} {w w' : World} (h : Below w.heap.size w w') : Ch bm w w' := Ch.of h
/-- What join leaves. -/
def JnR (r : Bool) (D' : Cls) (bm B : Nat) (w : World) (e : Ending) (w' : World) : Prop := e = .returned (.bool r) ∧ Cl w' bm B D' ∧ Ch bm w w'
def JnT (n : Nat) : Prop := ∀ (D : Cls) (a b : Tm) (D' : Cls) (r : Bool), joinP n D a b = some (D', r) → D'.length ≤ 1000000 → ∀ (B bm : Nat) (w : World) (av bv : Value), Wd w → 0 < B → B ≤ bm → Cl w bm B D → SlIn (· < B) w a.args av → SlIn (· < B) w b.args bv → Ok a → Ok b →
  Calls Tryz.prog 53 #[.map (some bm), .agg #[.string a.nm, av], .agg #[.string b.nm, bv]] w (JnR r D' bm B w)
theorem joinA_drop {f : Cls → Tm → Tm → Option (Cls × Bool)} {D : Cls} {xs ys : List Tm} {k : Nat} {x y : Tm} (hx : xs[k]? = some x) (hy : ys[k]? = some y) :
    joinA f D (xs.drop k) (ys.drop k) = match f D x y with
      | none => none
      | some (D', false) => some (D', false)
      | some (D', true) => joinA f D' (xs.drop (k + 1)) (ys.drop (k + 1)) := by
  rw [TermQ.drop_get hx, TermQ.drop_get hy]
  rfl
set_option maxRecDepth 100000 in
set_option maxHeartbeats 6400000 in
theorem join_any (n : Nat) : JnT n := by
  induction n with
  | zero => intro D a b D' r h; cases h
  | succ n IH =>
    intro D a b D' r hj hlen B bm w av bv hw hg hBm hC ha hb oa ob
    have hbm := hC.lt
    have hB : B ≤ w.heap.size := by omega
    obtain ⟨pa, ca, rfl⟩ := ha.form
    obtain ⟨pb, cb, rfl⟩ := hb.form
    obtain ⟨x, hx⟩ : ∃ x, leadP D n a = some x := by
      unfold joinP at hj
      cases h : leadP D n a with
      | none => rw [h] at hj; cases hj
      | some x => exact ⟨x, rfl⟩
    obtain ⟨y, hy⟩ : ∃ y, leadP D n b = some y := by
      unfold joinP at hj
      cases h : leadP D n b with
      | none => rw [hx, h] at hj; cases hj
      | some x => exact ⟨x, rfl⟩
    have HJ : Hid ((if cmpT x y = 0 then some (D, true) else if ledB y x = true then joinB (joinP n) D y x else joinB (joinP n) D x y) = some (D', r)) := Lib.hid (by
      unfold joinP at hj; rw [hx, hy] at hj; exact hj)
    obtain ⟨W2, hW2⟩ : ∃ W2, W2 = (w.alloc (.cells #[.string a.nm, .slice pa a.args.length ca] 27)).alloc (.cells #[.string b.nm, .slice pb b.args.length cb] 27) := ⟨_, rfl⟩
    have G2 : Hid (Gr w W2) := Lib.hid (by rw [hW2]; exact (Gr.alloc _ _).more _)
    have B2 : Hid (Below w.heap.size w W2) := Lib.hid G2.out.1
    have hs2 : w.heap.size + 2 ≤ W2.heap.size := by rw [hW2]; simp
    have H2 : Hid (Has W2 w.heap.size #[.string a.nm, .slice pa a.args.length ca]) := Lib.hid (by rw [hW2]; exact (Has.new w _ _).alloc _)
    have T2 : Hid (Has W2 (w.heap.size + 1) #[.string b.nm, .slice pb b.args.length cb]) := Lib.hid (by rw [hW2]; exact Has.new1 w _ _ _)
    have LA := Lib.hid (fun w' (k : Below w.heap.size w w') => leader_any D n a x hx B bm w' _ (hw.below k hw.1) (Nat.le_trans hB k.size) (hC.keep k hB) (ha.deep k hB) oa)
    have LB := Lib.hid (fun w' (k : Below w.heap.size w w') => leader_any D n b y hy B bm w' _ (hw.below k hw.1) (Nat.le_trans hB k.size) (hC.keep k hB) (hb.deep k hB) ob)
    have CK := Lib.hid (fun w' (k : Below w.heap.size w w') => And.intro (hC.keep k hB) (hw.below k hw.1))
    have HB := Lib.hid hB
    have HBM := Lib.hid hBm
    have HWD := Lib.hid (fun w' (g : Ch bm w w') => wd_c hw g (by omega))
    have HG := Lib.hid hg
    have HLN := Lib.hid hlen
    have hbm2 := hbm
    have HIH := Lib.hid IH
    clear IH hC ha hb hw hj hx hy hB hBm hg oa ob
    unfold TmR at LA LB
    unfold JnR
    generalize a.nm = an at *
    generalize a.args.length = al at *
    generalize b.nm = bn at *
    generalize b.args.length = bl at *
    obtain ⟨y1, y2, y3, y4, y5⟩ := H2.out.two
    obtain ⟨z1, z2, z3, z4, z5⟩ := T2.out.two
    go_enter Tryz.func53, Tryz.ntmps53
    go_upto_region 1 with fail
    rw [← hW2]
    clear hW2
    go_cut [] (fun wx => ∃ (p3 : Option Addr) (c3 : Nat) (p4 : Option Addr) (c4 : Nat), Hid (Has wx w.heap.size #[.string x.nm, .slice p3 x.args.length c3]) ∧ Hid (Has wx (w.heap.size + 1) #[.string y.nm, .slice p4 y.args.length c4]) ∧ Hid (SlIn (· < B) wx x.args (.slice p3 x.args.length c3)) ∧ Hid (SlIn (· < B) wx y.args (.slice p4 y.args.length c4)) ∧ Hid (Ok x ∧ Ok y) ∧ Hid (Below w.heap.size w wx) ∧ w.heap.size + 2 ≤ wx.heap.size)
    case first =>
      clear HJ CK HIH
      go_region_law (first
        | (go_simp; go_at_call 83; (with_reducible refine (LA.out _ (by first | exact B2.out | exact B2.out.drew | exact below_drewN B2.out _)).mono ?_); rintro e w3 ⟨p3, c3, rfl, s3, o3, b3⟩; have B3 : Hid (Below w.heap.size w w3) := Lib.hid (by first | exact next0 B2.out b3 | exact next0 B2.out.drew b3 | exact next0 (below_drewN B2.out _) b3); have K3 : Hid (Below W2.heap.size W2 w3) := Lib.hid (by first | exact b3 | exact next0 (Below.refl _ _).drew b3 | exact next0 (below_drewN (Below.refl _ _) _) b3); have H3 := Lib.hid (H2.out.step0 K3.out); have T3 := Lib.hid (T2.out.step0 K3.out); have S3 := Lib.hid s3; have O3 := Lib.hid o3; clear s3 o3 b3 y1 y2 y3 y4 y5 z1 z2 z3 z4 z5; obtain ⟨z1, z2, z3, z4, z5⟩ := T3.out.two)
        | (go_simp; go_at_call 83; (with_reducible refine (LB.out _ (by first | exact B3.out | exact B3.out.drew | exact below_drewN B3.out _)).mono ?_); rintro e w4 ⟨p4, c4, rfl, s4, o4, b4⟩; have B4 : Hid (Below w.heap.size w w4) := Lib.hid (by first | exact next0 B3.out b4 | exact next0 B3.out.drew b4 | exact next0 (below_drewN B3.out _) b4); have K4 : Hid (Below w3.heap.size w3 w4) := Lib.hid (by first | exact b4 | exact next0 (Below.refl _ _).drew b4 | exact next0 (below_drewN (Below.refl _ _) _) b4); have S4 := Lib.hid s4; have O4 := Lib.hid o4; have S3' := Lib.hid (S3.out.deep K4.out (Nat.le_trans HB.out B3.out.size)); have H4 := Lib.hid (H3.out.step0 K4.out); have T4 := Lib.hid (T3.out.step0 K4.out); clear s4 o4 b4 z1 z2 z3 z4 z5; obtain ⟨y1, y2, y3, y4, y5⟩ := H4.out.two; obtain ⟨z1, z2, z3, z4, z5⟩ := T4.out.two; have a1 := H4.out.put0 (.string x.nm) (.slice p3 x.args.length c3); have a2 := H4.out.put1 (.string x.nm) (.slice p3 x.args.length c3)))
      all_goals
        go_wp2_with fail
        go_meet
        exact ⟨p3, c3, p4, c4, Lib.hid (far_agg (k := w.heap.size + 1) (by omega) (put_agg H4.out _ _) _ _), Lib.hid (put_agg (far_agg (k := w.heap.size) (by omega) T4.out _ _) _ _), Lib.hid (slin_far (slin_far S3'.out HB.out _ _) (show B ≤ w.heap.size + 1 by have := HB.out; omega) _ _), Lib.hid (slin_far (slin_far S4.out HB.out _ _) (show B ≤ w.heap.size + 1 by have := HB.out; omega) _ _), Lib.hid ⟨O3.out, O4.out⟩, Lib.hid ((((B4.out.setCell (p := ⟨w.heap.size, 0, none⟩) (by simp) _).setCell (p := ⟨w.heap.size, 1, none⟩) (by simp) _).setCell (p := ⟨w.heap.size + 1, 0, none⟩) (by simp) _).setCell (p := ⟨w.heap.size + 1, 1, none⟩) (by simp) _), by have := K3.out.size; have := K4.out.size; simp [World.setCell]; omega⟩
    case rest =>
      obtain ⟨p3, c3, p4, c4, HA, HY, S3, S4, OO, K1, hs1⟩ := hcut
      clear LA LB G2 B2 H2 T2 y1 y2 y3 y4 y5 z1 z2 z3 z4 z5 hs2
      obtain ⟨y1, y2, _⟩ := HA.out.two
      obtain ⟨z1, z2, _⟩ := HY.out.two
      have CC := Lib.hid (TermR.cmp_any x B wc (.slice p3 x.args.length c3) y (.slice p4 y.args.length c4) (Nat.le_trans HB.out K1.out.size) OO.out.1.1 OO.out.2.1 S3.out S4.out)
      have CL := Lib.hid (fun w' => leads_any y x p4 p3 c4 c3 w' OO.out.2.1 OO.out.1.1)
      obtain ⟨z, hz⟩ : ∃ z, (cmpT x y == 0) = z := ⟨_, rfl⟩
      have HJ2 : Hid ((if z = true then some (D, true) else if ledB y x = true then joinB (joinP n) D y x else joinB (joinP n) D x y) = some (D', r)) := Lib.hid (by
        rw [← hz]
        have := HJ.out
        by_cases h : cmpT x y = 0
        · rw [if_pos h] at this; simpa [h] using this
        · rw [if_neg h] at this; simpa [h] using this)
      clear HJ
      obtain ⟨L, hL⟩ : ∃ L, ledB y x = L := ⟨_, rfl⟩
      rw [hL] at HJ2 CL
      clear hL
      generalize cmpT x y = cc at *
      go_wp2_with fail
      refine CC.out.mono ?_
      rintro e w5 ⟨rfl, g5⟩
      have K5 := Lib.hid (next0 K1.out g5.1)
      have HA5 := Lib.hid (HA.out.step0 g5.1)
      have HY5 := Lib.hid (HY.out.step0 g5.1)
      have S35 := Lib.hid (S3.out.deep g5.1 (Nat.le_trans HB.out K1.out.size))
      have S45 := Lib.hid (S4.out.deep g5.1 (Nat.le_trans HB.out K1.out.size))
      have hs5 : w.heap.size + 2 ≤ w5.heap.size := Nat.le_trans hs1 g5.1.size
      clear CC HA HY S3 S4 K1 hs1 g5 y1 y2 z1 z2
      obtain ⟨y1, y2, _⟩ := HA5.out.two
      obtain ⟨z1, z2, _⟩ := HY5.out.two
      cases z
      case true =>
        have e9 := HJ2.out
        rw [if_pos rfl] at e9
        cases e9
        go_wp2_with fail
        go_ret
        exact ⟨rfl, (CK.out _ K5.out).1, Ch.of K5.out⟩
      case false =>
        have HJ3 : Hid ((if L = true then joinB (joinP n) D y x else joinB (joinP n) D x y) = some (D', r)) := Lib.hid (by have e9 := HJ2.out; rwa [if_neg (by simp)] at e9)
        clear HJ2
        go_wp2_with fail
        refine (CL.out _).mono ?_
        rintro e w6 ⟨rfl, g6⟩
        have K6 := Lib.hid (next0 K5.out g6.1)
        have HA6 := Lib.hid (HA5.out.step0 g6.1)
        have HY6 := Lib.hid (HY5.out.step0 g6.1)
        have S36 := Lib.hid (S35.out.deep g6.1 (Nat.le_trans HB.out K5.out.size))
        have S46 := Lib.hid (S45.out.deep g6.1 (Nat.le_trans HB.out K5.out.size))
        have hs6 : w.heap.size + 2 ≤ w6.heap.size := Nat.le_trans hs5 g6.1.size
        clear CL HA5 HY5 S35 S45 K5 hs5 g6 y1 y2 z1 z2
        go_upto_if 20 with fail
        go_cut [] (fun wx => ∃ (X Y : Tm) (pX : Option Addr) (cX : Nat) (pY : Option Addr) (cY : Nat), Hid (joinB (joinP n) D X Y = some (D', r)) ∧ Hid (Has wx w.heap.size #[.string X.nm, .slice pX X.args.length cX]) ∧ Hid (Has wx (w.heap.size + 1) #[.string Y.nm, .slice pY Y.args.length cY]) ∧ Hid (SlIn (· < B) wx X.args (.slice pX X.args.length cX)) ∧ Hid (SlIn (· < B) wx Y.args (.slice pY Y.args.length cY)) ∧ Hid (Ok X ∧ Ok Y) ∧ Hid (Below w.heap.size w wx) ∧ w.heap.size + 2 ≤ wx.heap.size)
        case first =>
          cases L
          · have e9 := HJ3.out
            rw [if_neg (by simp)] at e9
            go_wp2_with fail
            go_meet
            exact ⟨x, y, p3, c3, p4, c4, Lib.hid e9, HA6, HY6, S36, S46, OO, K6, hs6⟩
          · have e9 := HJ3.out
            rw [if_pos rfl] at e9
            have E9 := Lib.hid e9
            clear e9 HJ3
            obtain ⟨y1, y2, y3, y4, y5⟩ := HA6.out.two
            obtain ⟨z1, z2, z3, z4, z5⟩ := HY6.out.two
            have FA := Lib.hid (far_agg (k := w.heap.size + 1) (by omega) (put_agg HA6.out (.string y.nm) (.slice p4 y.args.length c4)) (.string x.nm) (.slice p3 x.args.length c3))
            have FB := Lib.hid (put_agg (far_agg (k := w.heap.size) (by omega) HY6.out (.string y.nm) (.slice p4 y.args.length c4)) (.string x.nm) (.slice p3 x.args.length c3))
            have KW := Lib.hid ((((K6.out.setCell (p := ⟨w.heap.size, 0, none⟩) (by simp) (.string y.nm)).setCell (p := ⟨w.heap.size, 1, none⟩) (by simp) (.slice p4 y.args.length c4)).setCell (p := ⟨w.heap.size + 1, 0, none⟩) (by simp) (.string x.nm)).setCell (p := ⟨w.heap.size + 1, 1, none⟩) (by simp) (.slice p3 x.args.length c3))
            have SA := Lib.hid (slin_far (slin_far S36.out HB.out (.string y.nm) (.slice p4 y.args.length c4)) (show B ≤ w.heap.size + 1 by have := HB.out; omega) (.string x.nm) (.slice p3 x.args.length c3))
            have SB := Lib.hid (slin_far (slin_far S46.out HB.out (.string y.nm) (.slice p4 y.args.length c4)) (show B ≤ w.heap.size + 1 by have := HB.out; omega) (.string x.nm) (.slice p3 x.args.length c3))
            clear HA6 HY6 S36 S46 K6
            go_wp2_with fail
            go_meet
            exact ⟨y, x, p4, c4, p3, c3, E9, FA, FB, SB, SA, Lib.hid ⟨OO.out.2, OO.out.1⟩, KW, by simp [World.setCell]; omega⟩
        case rest =>
          obtain ⟨X, Y, pX, cX, pY, cY, HJ4, HX, HY, SX, SY, OO4, K4, hs4⟩ := hcut
          have hDl : D.length + 1 ≤ D'.length := joinB_len (joinP_len n) HJ4.out
          clear HJ3 HA6 HY6 S36 S46 K6 hs6 OO
          obtain ⟨y1, y2, _⟩ := HX.out.two
          obtain ⟨z1, z2, _⟩ := HY.out.two
          have CT := Lib.hid (fun w' (k : Below wc.heap.size wc w') => text_any Y B w' _ ((CK.out w' (next0 K4.out k)).2) (Nat.le_trans HB.out (next0 K4.out k).size) (SY.out.deep k (Nat.le_trans HB.out K4.out.size)) (by have := OO4.out.2.2.1; omega))
          go_upto_region 6 with fail
          go_cut [] (fun wx => Hid (Cl wx bm B ((textT Y, X) :: D)) ∧ Hid (Ch bm wc wx))
          case first =>
            go_region_law (first
              | (go_simp; go_at_call 85; (with_reducible refine (CT.out _ (by first | exact Below.refl _ _ | exact (Below.refl _ _).drew | exact below_drewN (Below.refl _ _) _)).mono ?_); rintro e w7 ⟨rfl, b7⟩; have B7 : Hid (Below wc.heap.size wc w7) := Lib.hid (by first | exact b7 | exact next0 (Below.refl _ _).drew b7 | exact next0 (below_drewN (Below.refl _ _) _) b7); clear b7 y1 y2 z1 z2; obtain ⟨y1, y2, _⟩ := (HX.out.step0 B7.out).two; obtain ⟨w8, hrun, hC8, hh8⟩ := cl_put (CK.out w7 (next0 K4.out B7.out)).1 HBM.out (by have := HLN.out; omega) (SX.out.deep B7.out (Nat.le_trans HB.out K4.out.size)) OO4.out.1 OO4.out.2; have C8 := Lib.hid hC8; have K8 := Lib.hid hh8; clear hC8 hh8))
            all_goals
              go_wp2_with fail
              go_meet
              exact ⟨C8, Lib.hid ((Ch.of B7.out).trans K8.out)⟩
          case rest =>
            obtain ⟨C5, H5⟩ := hcut
            obtain ⟨wd, hwd⟩ : ∃ wd, wd = wc := ⟨_, rfl⟩
            have HX5 := Lib.hid (H5.out.has HX.out (by omega))
            have HY5 := Lib.hid (H5.out.has HY.out (by omega))
            have F5 := Lib.hid ((Ch.of (r := bm) K4.out).trans H5.out)
            have SX5 := Lib.hid (slin_c SX.out H5.out HBM.out (Nat.le_trans HB.out K4.out.size))
            have SY5 := Lib.hid (slin_c SY.out H5.out HBM.out (Nat.le_trans HB.out K4.out.size))
            have hs5 : w.heap.size + 2 ≤ wc.heap.size := Nat.le_trans hs4 H5.out.size
            have DL5 : Hid (((textT Y, X) :: D : Cls).length ≤ D'.length) := Lib.hid (by simpa using hDl)
            clear y1 y2 z1 z2 CT HX HY SX SY K4 hs4 H5 CK hDl hwd wd
            unfold joinB at HJ4
            generalize ((textT Y, X) :: D : Cls) = D1 at *
            have KV := Lib.hid (fun w' => cvar_t Y pY cY w' OO4.out.2.1)
            have KH := Lib.hid (fun w' => head_any X.nm Y.nm pX pY X.args.length cX Y.args.length cY w')
            have EH : Hid (headE X Y = (eqB X.nm Y.nm && decide (X.args.length = Y.args.length))) := Lib.hid rfl
            rw [← EH.out] at KH
            obtain ⟨v, hv⟩ : ∃ v, isV Y = v := ⟨_, rfl⟩
            obtain ⟨h, hh⟩ : ∃ h, headE X Y = h := ⟨_, rfl⟩
            rw [hv] at HJ4 KV
            rw [hh] at HJ4 KH EH
            clear hv hh
            obtain ⟨y1, y2, _⟩ := HX5.out.two
            obtain ⟨z1, z2, _⟩ := HY5.out.two
            go_wp2_with fail
            refine (KV.out _).mono ?_
            rintro e w6 ⟨rfl, g6⟩
            have C6 := Lib.hid (C5.out.keep g6.1 (Nat.le_trans HB.out F5.out.size))
            have F6 := Lib.hid (F5.out.below g6.1)
            have HX6 := Lib.hid (HX5.out.step0 g6.1)
            have HY6 := Lib.hid (HY5.out.step0 g6.1)
            have SX6 := Lib.hid (SX5.out.deep g6.1 (Nat.le_trans HB.out F5.out.size))
            have SY6 := Lib.hid (SY5.out.deep g6.1 (Nat.le_trans HB.out F5.out.size))
            have hs6 : w.heap.size + 2 ≤ w6.heap.size := Nat.le_trans hs5 g6.1.size
            clear C5 F5 HX5 HY5 SX5 SY5 hs5 g6 y1 y2 z1 z2 KV
            obtain ⟨y1, y2, _⟩ := HX6.out.two
            obtain ⟨z1, z2, _⟩ := HY6.out.two
            cases v
            case true =>
              have e9 := HJ4.out
              rw [if_pos rfl] at e9
              cases e9
              go_wp2_with fail
              go_ret
              exact ⟨rfl, C6.out, F6.out⟩
            case false =>
              have HJ5 : Hid ((if h = true then joinA (joinP n) D1 X.args Y.args else some (D1, false)) = some (D', r)) := Lib.hid (by have e9 := HJ4.out; rwa [if_neg (by simp)] at e9)
              clear HJ4
              go_wp2_with fail
              refine (KH.out _).mono ?_
              rintro e w7 ⟨rfl, g7⟩
              have C7 := Lib.hid (C6.out.keep g7.1 (Nat.le_trans HB.out F6.out.size))
              have F7 := Lib.hid (F6.out.below g7.1)
              have HX7 := Lib.hid (HX6.out.step0 g7.1)
              have HY7 := Lib.hid (HY6.out.step0 g7.1)
              have SX7 := Lib.hid (SX6.out.deep g7.1 (Nat.le_trans HB.out F6.out.size))
              have SY7 := Lib.hid (SY6.out.deep g7.1 (Nat.le_trans HB.out F6.out.size))
              have hs7 : w.heap.size + 2 ≤ w7.heap.size := Nat.le_trans hs6 g7.1.size
              clear C6 F6 HX6 HY6 SX6 SY6 hs6 g7 y1 y2 z1 z2 KH
              obtain ⟨y1, y2, _⟩ := HX7.out.two
              cases h
              case false =>
                have e9 := HJ5.out
                rw [if_neg (by simp)] at e9
                cases e9
                go_wp2_with fail
                go_ret
                exact ⟨rfl, C7.out, F7.out⟩
              case true =>
                have e9 := HJ5.out
                rw [if_pos rfl] at e9
                have HE : Hid (joinA (joinP n) D1 (X.args.drop 0) (Y.args.drop 0) = some (D', r)) := Lib.hid e9
                have hab : X.args.length = Y.args.length := by
                  have := EH.out.symm
                  rw [Bool.and_eq_true, decide_eq_true_eq] at this
                  exact this.2
                have hm63 : X.args.length ≤ 9223372036854775807 := by
                  obtain ⟨_, _, _, _, hc1, hc2, _⟩ := SX7.out.row
                  unfold maxLen at hc2
                  omega
                have JA : Hid (∀ (D9 : Cls) (xs ys : List Tm) (D8 : Cls) (r8 : Bool), joinA (joinP n) D9 xs ys = some (D8, r8) → D9.length ≤ D8.length) := Lib.hid (fun D9 xs ys D8 r8 h => joinA_len (joinP_len n) xs ys D9 D8 r8 h)
                have AX := Lib.hid (fun (x : Tm) (hx : x ∈ X.args) (hn : x.nm.size ≤ maxLen) => OO4.out.1.arg hx hn)
                have AY := Lib.hid (fun (x : Tm) (hx : x ∈ Y.args) (hn : x.nm.size ≤ maxLen) => OO4.out.2.arg hx hn)
                rw [← hab] at HY7 SY7
                have HAB := Lib.hid hab
                clear e9 HJ5 EH hab
                generalize hma : X.args.length = m at *
                have HMA := Lib.hid hma
                clear hma
                go_wp2_with fail
                clear y1 y2
                go_loopw [36] (fun i wr => ∃ (k : Nat) (Dk : Cls), k ≤ m ∧ i = .int .i64 k ∧ Hid (joinA (joinP n) Dk (X.args.drop k) (Y.args.drop k) = some (D', r)) ∧ Hid (Cl wr bm B Dk) ∧ Hid (Ch bm w7 wr)) (fun i _ => m - (intOf i).toNat)
                case atStart => exact ⟨0, D1, Nat.zero_le _, rfl, HE, C7, Lib.hid (Ch.refl _ _)⟩
                case round =>
                  obtain ⟨k, Dk, hk, rfl, hE, hC, hF⟩ := hrel
                  by_cases hlt : k < m
                  · have HXr := Lib.hid (hF.out.has HX7.out (by omega))
                    have HYr := Lib.hid (hF.out.has HY7.out (by omega))
                    have SXr := Lib.hid (slin_c SX7.out hF.out HBM.out (Nat.le_trans HB.out F7.out.size))
                    have SYr := Lib.hid (slin_c SY7.out hF.out HBM.out (Nat.le_trans HB.out F7.out.size))
                    obtain ⟨p', c', e1, _, _, _, hR⟩ := SXr.out.row
                    rw [HMA.out] at e1
                    injection e1 with e1 _ e2
                    subst e1 e2
                    obtain ⟨x9, b, o, q, d, hx9, rfl, hb, u1, u2, hxs, hxn⟩ := hR k (by rw [HMA.out]; exact hlt)
                    obtain ⟨p', c', e1, _, _, _, hR'⟩ := SYr.out.row
                    rw [← HAB.out] at e1
                    injection e1 with e1 _ e2
                    subst e1 e2
                    obtain ⟨y9, b2, o2, q2, d2, hy9, rfl, hb2, v1, v2, hys, hyn⟩ := hR' k (by rw [← HAB.out]; exact hlt)
                    obtain ⟨z1, z2, _⟩ := HXr.out.two
                    obtain ⟨z3, z4, _⟩ := HYr.out.two
                    have E9 := hE.out
                    rw [joinA_drop hx9 hy9] at E9
                    have O1 := AX.out x9 (List.mem_of_getElem? hx9) hxn
                    have O2 := AY.out y9 (List.mem_of_getElem? hy9) hyn
                    obtain ⟨D2, t, hj9, hl9, hn9⟩ : ∃ D2 t, joinP n Dk x9 y9 = some (D2, t) ∧ D2.length ≤ D'.length ∧ Hid ((t = false → D2 = D' ∧ r = false) ∧ (t = true → joinA (joinP n) D2 (X.args.drop (k + 1)) (Y.args.drop (k + 1)) = some (D', r))) := by
                      cases hj : joinP n Dk x9 y9 with
                      | none => rw [hj] at E9; cases E9
                      | some z =>
                        obtain ⟨D2, t⟩ := z
                        rw [hj] at E9
                        cases t with
                        | false => cases E9; exact ⟨_, _, rfl, Nat.le_refl _, Lib.hid ⟨fun _ => ⟨rfl, rfl⟩, fun h => (by cases h)⟩⟩
                        | true => exact ⟨_, _, rfl, JA.out _ _ _ _ _ E9, Lib.hid ⟨fun h => (by cases h), fun _ => E9⟩⟩
                    have CI := Lib.hid (fun w' (g : Below wr.heap.size wr w') => HIH.out Dk x9 y9 D2 t hj9 (Nat.le_trans hl9 HLN.out) B bm w' _ _ (HWD.out w' ((F7.out.trans hF.out).below g)) HG.out HBM.out (hC.out.keep g (Nat.le_trans HB.out (F7.out.trans hF.out).size)) (hxs.deep g (Nat.le_trans HB.out (F7.out.trans hF.out).size)) (hys.deep g (Nat.le_trans HB.out (F7.out.trans hF.out).size)) O1 O2)
                    clear hx9 hy9 hxs hys hxn hyn O1 O2 E9 hj9 hl9 hE hC hR hR' SXr SYr
                    unfold JnR at CI
                    generalize x9.nm = xn at *
                    generalize x9.args.length = xa at *
                    generalize y9.nm = yn at *
                    generalize y9.args.length = ya at *
                    go_upto_region 14 with fail
                    go_region_with (first
                      | (go_at_call 53; (with_reducible refine (CI.out _ (by first | exact Below.refl _ _ | exact (Below.refl _ _).drew | exact below_drewN (Below.refl _ _) _)).mono ?_); rintro e w8 ⟨rfl, h8, k8⟩; have C8 := Lib.hid h8; have K8 : Hid (Ch bm wr w8) := Lib.hid (by first | exact k8 | exact (Ch.of (Below.refl _ _).drew).trans k8 | exact (Ch.of (below_drewN (Below.refl _ _) _)).trans k8); clear h8 k8))
                    all_goals
                      cases t
                      · obtain ⟨rfl, rfl⟩ := hn9.out.1 rfl
                        go_wp2_with fail
                        go_ret
                        exact ⟨rfl, C8.out, (F7.out.trans hF.out).trans K8.out⟩
                      · have EN := Lib.hid (hn9.out.2 rfl)
                        clear hn9
                        go_wp2_with fail
                        go_roundw
                        case rel => exact ⟨k + 1, D2, by omega, by go_num, EN, C8, Lib.hid (hF.out.trans K8.out)⟩
                        case measure => simp [intOf]; omega
                  · obtain rfl : k = m := by omega
                    have e9 := hE.out
                    rw [← HMA.out, List.drop_length, HMA.out, HAB.out, List.drop_length] at e9
                    cases e9
                    go_wp2_with fail
                    go_ret
                    exact ⟨rfl, hC.out, F7.out.trans hF.out⟩
end UnmC
end Go.Proofs.YtaenalpckloikaaGreatDoor
