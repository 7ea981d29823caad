/- Texts laid together: ParLn; RefA. Their own heads stand before each. -/
import Derived.Test.YtfdpelokiljigaaDoorPk11
import Derived.Test.YtfdpelokiljigaaDoorPk21
import Derived.Test.YtfdpelokiljigaaDoorPk8
import Derived.StillTailTactics
import Derived.Deep.QuietTactic
import Derived.BigQuiet
import Derived.Deep.RegionHeld3
import Derived.Deep.DeepCutAuto
/- The plain parser reads only the tokens that it passes and the next one; a rule ends with its point. So the rules of two texts on separate lines are those of both. No conditions. -/
namespace Go.Proofs.YtfdpelokiljigaaDoor
open Go Go.RowKit
namespace ParLn
open Kit LexM TermM LexE LexF LexG LexP LexQ ParM ParV ParN
def hk (t : GTok) : Int × ByteArray := (t.1, t.2.1)
theorem isB_hk {a b : GTok} (h : hk a = hk b) (s : ByteArray) : isB a s = isB b s := by
  have : a.2.1 = b.2.1 := congrArg (fun p : Int × ByteArray => p.2) h
  unfold isB; rw [this]
theorem fst_hk {a b : GTok} (h : hk a = hk b) : a.1 = b.1 := congrArg (fun p : Int × ByteArray => p.1) h
theorem snd_hk {a b : GTok} (h : hk a = hk b) : a.2.1 = b.2.1 := congrArg (fun p : Int × ByteArray => p.2) h
theorem begB_hk {a b : GTok} (h : hk a = hk b) : begB a = begB b := by unfold begB; rw [fst_hk h]
theorem atomB_hk {a b : GTok} (h : hk a = hk b) : atomB a = atomB b := by unfold atomB; rw [fst_hk h]
theorem h0 {n : Nat} {a b : List GTok} (hs : ∀ i, i ≤ n → hk (hd (a.drop i)) = hk (hd (b.drop i))) : hk (hd a) = hk (hd b) := hs 0 (Nat.zero_le _)
/-- It reads what it passes, and perhaps the next token. -/
def Loc1 {α : Type} (f : List GTok → Out α) : Prop := ∀ ts x r, f ts = .good x r → ∃ n, r = ts.drop n ∧ ∀ ts', (∀ i, i ≤ n → hk (hd (ts'.drop i)) = hk (hd (ts.drop i))) → f ts' = .good x (ts'.drop n)
/-- It reads what it passes; the last one is a point. -/
def Loc0 {α : Type} (f : List GTok → Out α) : Prop := ∀ ts x r, f ts = .good x r → ∃ n, r = ts.drop (n + 1) ∧ isB (hd (ts.drop n)) sDot = true ∧ ∀ ts', (∀ i, i ≤ n → hk (hd (ts'.drop i)) = hk (hd (ts.drop i))) → f ts' = .good x (ts'.drop (n + 1))
section
variable {α β : Type}
theorem Loc0.one {f : List GTok → Out α} (h : Loc0 f) : Loc1 f := fun ts x r e => by
  obtain ⟨n, h1, _, h2⟩ := h ts x r e
  exact ⟨n + 1, h1, fun ts' hs => h2 ts' fun i hi => hs i (by omega)⟩
theorem Loc1.then {f : List GTok → Out α} {g : α → List GTok → Out β} (hf : Loc1 f) (hg : ∀ x, Loc1 (g x)) : Loc1 (fun ts => (f ts).then g) := fun ts y r h => by
  cases hx : f ts with
  | bad a e => simp only [hx] at h; cases h
  | good x r1 =>
    simp only [hx] at h
    obtain ⟨n, rfl, k⟩ := hf ts x r1 hx
    obtain ⟨m, rfl, k2⟩ := hg x _ y r h
    refine ⟨n + m, by rw [List.drop_drop], fun ts' hs => ?_⟩
    simp only [k ts' (fun i hi => hs i (by omega))]
    show g x (ts'.drop n) = _
    rw [k2 (ts'.drop n) (fun i hi => by rw [List.drop_drop, List.drop_drop]; exact hs (n + i) (by omega)), List.drop_drop]
theorem Loc1.then0 {f : List GTok → Out α} {g : α → List GTok → Out β} (hf : Loc1 f) (hg : ∀ x, Loc0 (g x)) : Loc0 (fun ts => (f ts).then g) := fun ts y r h => by
  cases hx : f ts with
  | bad a e => simp only [hx] at h; cases h
  | good x r1 =>
    simp only [hx] at h
    obtain ⟨n, rfl, k⟩ := hf ts x r1 hx
    obtain ⟨m, rfl, q, k2⟩ := hg x _ y r h
    refine ⟨n + m, by rw [List.drop_drop]; rfl, by rw [← List.drop_drop]; exact q, fun ts' hs => ?_⟩
    simp only [k ts' (fun i hi => hs i (by omega))]
    show g x (ts'.drop n) = _
    rw [k2 (ts'.drop n) (fun i hi => by rw [List.drop_drop, List.drop_drop]; exact hs (n + i) (by omega)), List.drop_drop]
    rfl
theorem Loc1.pure (x : α) : Loc1 (fun r => .good x r) := fun ts y r h => by
  cases h
  exact ⟨0, rfl, fun ts' _ => rfl⟩
end
theorem loc_more (f : List GTok → Out Tm) (hf : Loc1 f) : ∀ n l, Loc1 (moreF f n l)
  | 0, l => fun ts x r h => by cases h
  | n + 1, l => fun ts x r h => by
    rw [moreF] at h
    simp only [← List.drop_one] at h
    split at h
    · rename_i c1
      split at h
      · cases h
      · rename_i c2
        obtain ⟨m, e, k⟩ := (hf.then fun t => loc_more f hf n (l ++ [t])) _ x r h
        rw [List.drop_drop] at e
        refine ⟨1 + m, e, fun ts' hs => ?_⟩
        rw [moreF]
        simp only [← List.drop_one]
        rw [if_pos (by rw [isB_hk (h0 hs)]; exact c1), if_neg (by rw [begB_hk (hs 1 (by omega))]; exact c2)]
        have := k (ts'.drop 1) (fun i hi => by rw [List.drop_drop, List.drop_drop]; exact hs (1 + i) (by omega))
        rw [List.drop_drop] at this
        exact this
    · rename_i c1
      split at h
      · rename_i c2
        cases h
        refine ⟨1, rfl, fun ts' hs => ?_⟩
        rw [moreF]
        simp only [← List.drop_one]
        rw [if_neg (by rw [isB_hk (h0 hs)]; exact c1), if_pos (by rw [isB_hk (h0 hs)]; exact c2)]
      · cases h
theorem loc_args (f : List GTok → Out Tm) (hf : Loc1 f) : Loc1 (argsF f) := fun ts x r h => by
  unfold argsF at h
  simp only [← List.drop_one] at h
  split at h
  · rename_i c1
    obtain ⟨m, e, k⟩ := (hf.then fun t => loc_more f hf 4 [t]) _ x r h
    rw [List.drop_drop] at e
    refine ⟨1 + m, e, fun ts' hs => ?_⟩
    unfold argsF
    simp only [← List.drop_one]
    rw [if_pos (by rw [isB_hk (h0 hs)]; exact c1)]
    have := k (ts'.drop 1) (fun i hi => by rw [List.drop_drop, List.drop_drop]; exact hs (1 + i) (by omega))
    rw [List.drop_drop] at this
    exact this
  · rename_i c1
    cases h
    refine ⟨0, rfl, fun ts' hs => ?_⟩
    unfold argsF
    rw [if_neg (by rw [isB_hk (h0 hs)]; exact c1)]
    rfl
theorem loc_term : ∀ d, Loc1 (termF d)
  | 0 => fun ts x r h => by
    rw [termF] at h
    split at h <;> cases h
  | d + 1 => fun ts x r h => by
    rw [termF] at h
    simp only [← List.drop_one] at h
    split at h
    · cases h
    · rename_i c1
      split at h
      · rename_i c2
        obtain ⟨m, e, k⟩ := ((loc_args _ (loc_term d)).then fun l => Loc1.pure (Tm.mk (hd ts).2.1 l)) _ x r h
        rw [List.drop_drop] at e
        refine ⟨1 + m, e, fun ts' hs => ?_⟩
        rw [termF]
        simp only [← List.drop_one]
        rw [if_neg (by rw [begB_hk (h0 hs)]; exact c1), if_pos (by rw [fst_hk (h0 hs)]; exact c2)]
        have := k (ts'.drop 1) (fun i hi => by rw [List.drop_drop, List.drop_drop]; exact hs (1 + i) (by omega))
        rw [List.drop_drop] at this
        rw [show (hd ts').2.1 = (hd ts).2.1 from snd_hk (h0 hs)]
        exact this
      · rename_i c2
        cases h
        refine ⟨1, rfl, fun ts' hs => ?_⟩
        rw [termF]
        simp only [← List.drop_one]
        rw [if_neg (by rw [begB_hk (h0 hs)]; exact c1), if_neg (by rw [fst_hk (h0 hs)]; exact c2), show (hd ts').2.1 = (hd ts).2.1 from snd_hk (h0 hs)]
theorem loc_atom : Loc1 atomF := fun ts x r h => by
  unfold atomF at h
  split at h
  · rename_i c
    obtain ⟨m, e, k⟩ := loc_term 4 _ x r h
    refine ⟨m, e, fun ts' hs => ?_⟩
    unfold atomF
    rw [if_pos (by rw [atomB_hk (h0 hs)]; exact c)]
    exact k ts' hs
  · cases h
theorem loc_lit : Loc1 litF := fun ts x r h => by
  unfold litF at h
  simp only [← List.drop_one] at h
  split at h
  · rename_i c
    obtain ⟨m, e, k⟩ := (loc_atom.then fun t => Loc1.pure (true, t)) _ x r h
    rw [List.drop_drop] at e
    refine ⟨1 + m, e, fun ts' hs => ?_⟩
    unfold litF
    simp only [← List.drop_one]
    rw [if_pos (by rw [isB_hk (h0 hs)]; exact c)]
    have := k (ts'.drop 1) (fun i hi => by rw [List.drop_drop, List.drop_drop]; exact hs (1 + i) (by omega))
    rw [List.drop_drop] at this
    exact this
  · rename_i c
    obtain ⟨m, e, k⟩ := (loc_atom.then fun t => Loc1.pure (false, t)) _ x r h
    refine ⟨m, e, fun ts' hs => ?_⟩
    unfold litF
    rw [if_neg (by rw [isB_hk (h0 hs)]; exact c)]
    exact k ts' hs
theorem loc_lits : ∀ n l, Loc1 (litsF n l)
  | 0, l => fun ts x r h => by cases h
  | n + 1, l => fun ts x r h => by
    rw [litsF] at h
    simp only [← List.drop_one] at h
    split at h
    · rename_i c1
      split at h
      · cases h
      · rename_i c2
        obtain ⟨m, e, k⟩ := (loc_lit.then fun t => loc_lits n (l ++ [t])) _ x r h
        rw [List.drop_drop] at e
        refine ⟨1 + m, e, fun ts' hs => ?_⟩
        rw [litsF]
        simp only [← List.drop_one]
        rw [if_pos (by rw [isB_hk (h0 hs)]; exact c1), if_neg (by rw [atomB_hk (hs 1 (by omega)), isB_hk (hs 1 (by omega))]; exact c2)]
        have := k (ts'.drop 1) (fun i hi => by rw [List.drop_drop, List.drop_drop]; exact hs (1 + i) (by omega))
        rw [List.drop_drop] at this
        exact this
    · rename_i c1
      cases h
      refine ⟨0, rfl, fun ts' hs => ?_⟩
      rw [litsF, if_neg (by rw [isB_hk (h0 hs)]; exact c1)]
      rfl
theorem loc_body : Loc1 bodyF := loc_lit.then fun t => loc_lits 8 [t]
theorem loc_exp : Loc0 (expF sDot) := fun ts x r h => by
  unfold expF at h
  simp only [← List.drop_one] at h
  split at h
  · rename_i c
    cases h
    refine ⟨0, rfl, c, fun ts' hs => ?_⟩
    unfold expF
    simp only [← List.drop_one]
    rw [if_pos (by rw [isB_hk (h0 hs)]; exact c)]
  · cases h
theorem loc0_pure {α β : Type} {f : List GTok → Out α} (hf : Loc0 f) (y : β) : Loc0 (fun ts => (f ts).then fun _ r => .good y r) := fun ts x r h => by
  cases hx : f ts with
  | bad a e => simp only [hx] at h; cases h
  | good z r1 =>
    simp only [hx] at h
    cases h
    obtain ⟨n, e, q, k⟩ := hf ts z _ hx
    refine ⟨n, e, q, fun ts' hs => ?_⟩
    simp only [k ts' hs]
    rfl
theorem loc_after (hh : Tm) : Loc0 (fun r => if isB (hd r) sIf = true then (bodyF r.tail).then fun b r2 => (expF sDot r2).then fun _ r3 => .good ((hh, b) : Rl) r3 else (expF sDot r).then fun _ r3 => .good (hh, []) r3) := fun ts x r h => by
  simp only [← List.drop_one] at h
  split at h
  · rename_i c
    obtain ⟨m, e, q, k⟩ := (loc_body.then0 fun b => loc0_pure loc_exp ((hh, b) : Rl)) _ x r h
    rw [List.drop_drop] at e q
    refine ⟨1 + m, e, q, fun ts' hs => ?_⟩
    simp only [← List.drop_one]
    rw [if_pos (by rw [isB_hk (h0 hs)]; exact c)]
    have := k (ts'.drop 1) (fun i hi => by rw [List.drop_drop, List.drop_drop]; exact hs (1 + i) (by omega))
    rw [List.drop_drop] at this
    rw [show 1 + m + 1 = 1 + (m + 1) by omega]
    exact this
  · rename_i c
    obtain ⟨m, e, q, k⟩ := loc0_pure loc_exp ((hh, []) : Rl) _ x r h
    refine ⟨m, e, q, fun ts' hs => ?_⟩
    dsimp only
    rw [if_neg (by rw [isB_hk (h0 hs)]; exact c)]
    exact k ts' hs
theorem loc_rule : Loc0 ruleF := fun ts x r h => (loc_atom.then0 loc_after) ts x r h
/-- A description whose tokens go on with others. -/
theorem desc_app : ∀ (n : Nat) (l : List Rl) (ts : List GTok) (l' : List Rl) (r : List GTok), l.length + n = 129 → descF n l ts = .good l' r →
    ∃ k n', r = ts.drop k ∧ (hd r).1 = 0 ∧ l'.length + n' = 129 ∧ (k = 0 ∨ ∃ j, k = j + 1 ∧ isB (hd (ts.drop j)) sDot = true) ∧ ∀ ts', (∀ i, i < k → hk (hd (ts'.drop i)) = hk (hd (ts.drop i))) → descF n l ts' = descF n' l' (ts'.drop k)
  | 0, l, ts, l', r, _, h => by cases h
  | n + 1, l, ts, l', r, hl, h => by
    rw [descF] at h
    split at h
    · rename_i h0
      cases h
      exact ⟨0, n + 1, rfl, h0, hl, Or.inl rfl, fun ts' _ => rfl⟩
    · rename_i h0
      split at h
      · cases h
      · rename_i c2
        cases hR : ruleF ts with
        | bad a e => rw [hR] at h; cases h
        | good x r1 =>
          rw [hR] at h
          obtain ⟨m, rfl, q, k1⟩ := loc_rule ts x r1 hR
          obtain ⟨k, n', e1, e2, e3, e5, e4⟩ := desc_app n (l ++ [x]) _ l' r (by simp; omega) h
          rw [List.drop_drop] at e1
          refine ⟨m + 1 + k, n', e1, e2, e3, Or.inr ?_, fun ts' hs => ?_⟩
          · rcases e5 with rfl | ⟨j, rfl, e5⟩
            · exact ⟨m, rfl, q⟩
            · exact ⟨m + 1 + j, by omega, by rw [← List.drop_drop]; exact e5⟩
          rw [descF, if_neg (by rw [fst_hk (show hk (hd ts') = hk (hd ts) from hs 0 (by omega))]; exact h0), if_neg (by rw [atomB_hk (show hk (hd ts') = hk (hd ts) from hs 0 (by omega))]; exact c2), k1 ts' (fun i hi => hs i (by omega))]
          show descF n (l ++ [x]) (ts'.drop (m + 1)) = _
          rw [e4 (ts'.drop (m + 1)) (fun i hi => by rw [List.drop_drop, List.drop_drop]; exact hs (m + 1 + i) (by omega)), List.drop_drop]
/-- The same rules behind other ones. -/
theorem desc_pre (p : List Rl) : ∀ (n : Nat) (l : List Rl) (ts : List GTok) (l' : List Rl) (r : List GTok) (n2 : Nat), l.length + n = 129 → p.length + l'.length ≤ 128 → descF n l ts = .good l' r →
    p.length + l.length + n2 = 129 → ∀ ts', (∀ i, hk (hd (ts'.drop i)) = hk (hd (ts.drop i))) → ∃ r', descF n2 (p ++ l) ts' = .good (p ++ l') r' ∧ hk (hd r') = hk (hd r)
  | 0, l, ts, l', r, n2, _, _, h, _ => by cases h
  | n + 1, l, ts, l', r, n2, hl, hb, h, hn2 => fun ts' hs => by
    have hlen : l.length ≤ l'.length := by
      obtain ⟨⟨m, hm⟩, _⟩ := desc_more _ _ _ _ _ h
      rw [hm]; simp
    obtain ⟨n3, rfl⟩ : ∃ n3, n2 = n3 + 1 := ⟨n2 - 1, by omega⟩
    rw [descF] at h ⊢
    split at h
    · rename_i h0
      cases h
      rw [if_pos (by rw [fst_hk (show hk (hd ts') = hk (hd ts) from hs 0)]; exact h0)]
      exact ⟨ts', rfl, hs 0⟩
    · rename_i h0
      rw [if_neg (by rw [fst_hk (show hk (hd ts') = hk (hd ts) from hs 0)]; exact h0)]
      split at h
      · cases h
      · rename_i c2
        cases hR : ruleF ts with
        | bad a e => rw [hR] at h; cases h
        | good x r1 =>
          rw [hR] at h
          have h' : descF n (l ++ [x]) r1 = .good l' r := h
          have hlen2 : l.length + 1 ≤ l'.length := by
            obtain ⟨⟨m, hm⟩, _⟩ := desc_more _ _ _ _ _ h'
            rw [hm]; simp
          obtain ⟨m, rfl, _, k1⟩ := loc_rule ts x r1 hR
          have hne : ¬ (p ++ l).length = 128 := by simp; omega
          rw [if_neg (by simp only [hne, decide_false, Bool.false_and]; decide), k1 ts' (fun i _ => hs i)]
          have ih := desc_pre p n (l ++ [x]) _ l' r n3 (by simp; omega) hb h' (by simp; omega) (ts'.drop (m + 1)) (fun i => by rw [List.drop_drop, List.drop_drop]; exact hs (m + 1 + i))
          rw [← List.append_assoc] at ih
          exact ih
theorem whole_good {α : Type} {f : List GTok → Out α} {l : List UInt8} {x : α} {r : List GTok} (h : wholeF f l = .good x r) : (lexR l).2.2 = 0 ∧ ∃ r', f ((lexR l).1.map gt) = .good x r' ∧ (hd r').1 = 0 ∧ r = [] := by
  unfold wholeF at h
  split at h
  · rename_i h0
    cases hf : f ((lexR l).1.map gt) with
    | bad a e => rw [hf] at h; cases h
    | good y r' =>
      rw [hf] at h
      change (if (hd r').1 = 0 then Out.good y [] else _) = _ at h
      split at h
      · rename_i h1
        cases h
        exact ⟨h0, r', rfl, h1, rfl⟩
      · cases h
  · cases h
theorem whole_of {α : Type} {f : List GTok → Out α} {l : List UInt8} {x : α} {r : List GTok} (h0 : (lexR l).2.2 = 0) (h : f ((lexR l).1.map gt) = .good x r) (h1 : (hd r).1 = 0) : wholeF f l = .good x [] := by
  unfold wholeF
  rw [if_pos h0, h]
  show (if (hd r).1 = 0 then Out.good x [] else _) = _
  rw [if_pos h1]
theorem norm3 {l : List UInt8} (h : (lexR l).2.2 = 0) : lexR l = ((lexR l).1, 0, 0) := by
  have h' := h
  unfold lexR at h ⊢
  split at h
  · cases h
  · rename_i c
    rw [if_neg c]
    obtain ⟨xs, e, _, _⟩ := lexF_good _ _ _ h
    rw [e]
theorem hd_mem {n : Nat} {ts : List GTok} (h : n < ts.length) : hd (ts.drop n) ∈ ts := by
  rw [List.drop_eq_getElem_cons h]
  exact List.getElem_mem h
theorem hd_past {n : Nat} {ts : List GTok} (h : ts.length ≤ n) : hd (ts.drop n) = (0, ⟨#[]⟩, 0) := by
  rw [List.drop_eq_nil_of_le h]; rfl
theorem hk_moved (d : Nat) (us : List Tok) (i : Nat) : hk (hd (((us.map (moved d)).map gt).drop i)) = hk (hd ((us.map gt).drop i)) := by
  rw [List.map_map, ← List.map_drop, ← List.map_drop]
  cases us.drop i with
  | nil => rfl
  | cons a r => rfl
/-- THE RULES OF TWO TEXTS ON SEPARATE LINES. -/
theorem parse_lines (a b : List UInt8) (ha : a.length ≤ 1000) (hb : b.length ≤ 1000) (l m : List Rl) (h1 : wholeF (descF 129 []) a = .good l []) (h2 : wholeF (descF 129 []) b = .good m []) (hlm : l.length + m.length ≤ 128) :
    wholeF (descF 129 []) (a ++ 10 :: b) = .good (l ++ m) [] := by
  obtain ⟨a0, ra, fa, ea, _⟩ := whole_good h1
  obtain ⟨b0, rb, fb, eb, _⟩ := whole_good h2
  obtain ⟨xs, n, eta, hL⟩ := lines a b ha hb _ _ (norm3 a0) (norm3 b0)
  obtain ⟨k, n', e1, e2, e3, e5, e4⟩ := desc_app 129 [] _ l ra rfl fa
  rw [eta, List.map_append] at e1 e4 e5
  have hgood : ∀ t ∈ xs, t.1 ≠ 0 := by
    unfold lexR at a0 eta
    split at a0
    · cases a0
    · rename_i c
      rw [if_neg c] at eta
      obtain ⟨ys, ey, g, _⟩ := lexF_good _ _ _ a0
      rw [ey] at eta
      have : ys = xs := List.append_inj_left' eta rfl
      subst this
      exact fun t ht => (g t ht).1
  have hkle : k ≤ (xs.map gt).length := by
    rcases e5 with rfl | ⟨j, rfl, e5⟩
    · exact Nat.zero_le _
    · rcases Nat.lt_or_ge j (xs.map gt).length with hlt | hge
      · exact hlt
      · exfalso
        have : (hd ((xs.map gt ++ [(0, [], n)].map gt).drop j)).2.1 = ⟨#[]⟩ := by
          rw [List.drop_append, List.drop_eq_nil_of_le hge, List.nil_append]
          cases j - (xs.map gt).length with
          | zero => rfl
          | succ q => show (hd (([] : List GTok).drop q)).2.1 = _; rw [List.drop_nil]; rfl
        exact isB_ne e5 (fun h => absurd (congrArg ByteArray.size h) (by decide)) this
  obtain rfl : k = (xs.map gt).length := by
    rcases Nat.lt_or_ge k (xs.map gt).length with hlt | hge
    · exfalso
      have hm := hd_mem (n := k) (ts := xs.map gt) hlt
      have hx : hd ((xs.map gt ++ [(0, [], n)].map gt).drop k) = hd ((xs.map gt).drop k) := by
        rw [List.drop_append_of_le_length hkle, List.drop_eq_getElem_cons hlt]; rfl
      rw [e1, hx] at e2
      obtain ⟨t, ht, e⟩ := List.mem_map.1 hm
      rw [← e] at e2
      exact hgood t ht e2
    · omega
  have hLm : (lexR (a ++ 10 :: b)).1.map gt = xs.map gt ++ ((lexR b).1.map (moved (a.length + 1))).map gt := by rw [hL, List.map_append]
  have s1 := e4 (xs.map gt ++ ((lexR b).1.map (moved (a.length + 1))).map gt) (fun i hi => by
    rw [List.drop_append_of_le_length (by omega), List.drop_append_of_le_length (by omega), List.drop_eq_getElem_cons hi]; rfl)
  rw [List.drop_left] at s1
  obtain ⟨r', s2, s3⟩ := desc_pre l 129 [] _ m rb n' rfl hlm fb (by simpa using e3) _ (hk_moved (a.length + 1) (lexR b).1)
  rw [List.append_nil] at s2
  refine whole_of (by rw [hL]) (by rw [hLm, s1, s2]) ((fst_hk s3).trans eb)
end ParLn
end Go.Proofs.YtfdpelokiljigaaDoor
/- The reference's reader of tokens in memory; is, fail, skip, begins. No conditions but a reader in memory. -/
namespace Go.Proofs.YtfdpelokiljigaaDoor
open Go Go.RowKit
namespace RefA
open Kit LexM TermM TermI TermU LexE LexF LexG LexP LexQ ParM ParA ParV
/-- A token whose text is a symbol or a reserved word is of that kind. -/
def Sy (t : GTok) : Prop := (t.1 = 4 ∨ t.1 = 5) ∨ ∀ s, s = sOpen ∨ s = sShut ∨ s = sComma ∨ s = sDot ∨ s = sIf ∨ s = sAnd ∨ s = sNot → isB t s = false
/-- The reference's reader at block r has these tokens left. -/
def RR (w : World) (r : Nat) (ts : List GTok) (at_ er : Int) : Prop :=
  Wf ts ∧ (∀ t ∈ ts, t.2.1.size ≤ maxLen ∧ Sy t) ∧ ∃ g o c n i, i + ts.length = n ∧ n ≤ 20000 ∧ n ≤ c ∧ c ≤ maxLen ∧ Has w r #[.slice (some ⟨g, o, none⟩) n c, .int .i64 (i : Nat), .int .i64 at_, .int .i64 er] ∧ g < r ∧ Toks w g (o + i * 3) ts
theorem has4 {w : World} {g : Nat} {a b c d : Value} (h : Has w g #[a, b, c, d]) : w.cell? ⟨g, 0, none⟩ = some a ∧ w.cell? ⟨g, 1, none⟩ = some b ∧ w.cell? ⟨g, 2, none⟩ = some c ∧ w.cell? ⟨g, 3, none⟩ = some d ∧ w.frozen? ⟨g, 1, none⟩ = false ∧ w.frozen? ⟨g, 2, none⟩ = false ∧ w.frozen? ⟨g, 3, none⟩ = false ∧ g < w.heap.size :=
  ⟨h.cell 0, h.cell 1, h.cell 2, h.cell 3, h.free 1, h.free 2, h.free 3, h.lt⟩
theorem RR.lt {w : World} {r : Nat} {ts : List GTok} {a e : Int} (h : RR w r ts a e) : r < w.heap.size := by
  obtain ⟨_, _, _, _, _, _, _, _, _, _, _, h, _⟩ := h; exact h.lt
theorem RR.below {w w' : World} {r : Nat} {ts : List GTok} {a e : Int} (h : RR w r ts a e) (k : Below w.heap.size w w') : RR w' r ts a e := by
  obtain ⟨h1, h2, g, o, c, n, i, h3, h4, h5, h6, h7, h8, h9⟩ := h
  exact ⟨h1, h2, g, o, c, n, i, h3, h4, h5, h6, h7.step0 k, h8, h9.below k h9.1⟩
theorem RR.nm {w : World} {r : Nat} {ts : List GTok} {a e : Int} (h : RR w r ts a e) : (hd ts).2.1.size ≤ maxLen := (h.2.1 _ (List.mem_of_getElem? (hd_get h.1.ne))).1
theorem RR.sy {w : World} {r : Nat} {ts : List GTok} {a e : Int} (h : RR w r ts a e) : Sy (hd ts) := (h.2.1 _ (List.mem_of_getElem? (hd_get h.1.ne))).2
theorem RR.wf {w : World} {r : Nat} {ts : List GTok} {a e : Int} (h : RR w r ts a e) : Wf ts := h.1
/-- What a walk at the reader knows of its cells. -/
theorem RR.open {w : World} {r : Nat} {ts : List GTok} {a e : Int} (h : RR w r ts a e) : ∃ g o c n i, (i : Nat) < n ∧ n ≤ 20000 ∧ r < w.heap.size ∧ g < r ∧ g < w.heap.size ∧ w.cell? ⟨r, 0, none⟩ = some (.slice (some ⟨g, o, none⟩) n c) ∧ w.cell? ⟨r, 1, none⟩ = some (.int .i64 (i : Nat)) ∧ w.cell? ⟨r, 2, none⟩ = some (.int .i64 a) ∧ w.cell? ⟨r, 3, none⟩ = some (.int .i64 e) ∧
    w.frozen? ⟨r, 1, none⟩ = false ∧ w.frozen? ⟨r, 2, none⟩ = false ∧ w.frozen? ⟨r, 3, none⟩ = false ∧ w.cell? ⟨g, o + i * 3, none⟩ = some (.int .i64 (hd ts).1) ∧ w.cell? ⟨g, o + i * 3 + 1, none⟩ = some (.string (hd ts).2.1) ∧ w.cell? ⟨g, o + i * 3 + 2, none⟩ = some (.int .i64 (hd ts).2.2) ∧ w.cell? ⟨g, o + i * 3 + 1 + 1, none⟩ = some (.int .i64 (hd ts).2.2) := by
  obtain ⟨h1, h2, g, o, c, n, i, h3, h4, h5, h6, h7, h8, h9⟩ := h
  obtain ⟨x1, x2, x3, x4, x5, x6, x7, x8⟩ := has4 h7
  obtain ⟨y1, y2, y3⟩ := h9.2 0 _ (hd_get h1.ne)
  rw [Nat.zero_mul, Nat.add_zero] at y1 y2 y3
  have := h1.ne
  exact ⟨g, o, c, n, i, by omega, h4, x8, h8, h9.1, x1, x2, x3, x4, x5, x6, x7, y1, y2, y3, y3⟩
/-- An error is recorded. -/
theorem RR.fail {w : World} {r : Nat} {ts : List GTok} {a e : Int} (h : RR w r ts a e) (a' e' : Int) : RR ((w.setCell ⟨r, 2, none⟩ (.int .i64 a')).setCell ⟨r, 3, none⟩ (.int .i64 e')) r ts a' e' := by
  obtain ⟨h1, h2, g, o, c, n, i, h3, h4, h5, h6, h7, h8, h9⟩ := h
  refine ⟨h1, h2, g, o, c, n, i, h3, h4, h5, h6, (h7.set 2 (.int .i64 a')).set 3 (.int .i64 e'), h8, ⟨by simpa [World.setCell] using h9.1, fun j t hj => ?_⟩⟩
  have hc : ∀ off, ((w.setCell ⟨r, 2, none⟩ (.int .i64 a')).setCell ⟨r, 3, none⟩ (.int .i64 e')).cell? ⟨g, off, none⟩ = w.cell? ⟨g, off, none⟩ := fun off =>
    (World.cell?_of_block (w := w.setCell ⟨r, 2, none⟩ (.int .i64 a')) (a := ⟨g, off, none⟩) (Below.heap_setCell _ _ _ _ (by show g ≠ r; omega))).trans (World.cell?_of_block (w := w) (a := ⟨g, off, none⟩) (Below.heap_setCell _ _ _ _ (by show g ≠ r; omega)))
  exact ⟨(hc _).trans (h9.2 j t hj).1, (hc _).trans (h9.2 j t hj).2.1, (hc _).trans (h9.2 j t hj).2.2⟩
/-- A token is passed. -/
theorem RR.pass {w : World} {r : Nat} {ts : List GTok} {a e : Int} {i : Nat} (h : RR w r ts a e) (h0 : (hd ts).1 ≠ 0 ∨ (hd ts).2.1 ≠ ⟨#[]⟩) (hi : w.cell? ⟨r, 1, none⟩ = some (.int .i64 i)) : RR (w.setCell ⟨r, 1, none⟩ (.int .i64 ((i : Int) + 1))) r ts.tail a e := by
  obtain ⟨h1, h2, g, o, c, n, i', h3, h4, h5, h6, h7, h8, h9⟩ := h
  have hii : i' = i := by
    have hc := h7.cell 1
    rw [hi] at hc
    simp at hc
    omega
  subst hii
  obtain ⟨k1, k2⟩ := h1.tail h0
  refine ⟨k1, fun t ht => h2 t (List.mem_of_mem_tail ht), g, o, c, n, i' + 1, by rw [List.length_tail]; omega, h4, h5, h6, ?_, h8, ⟨by simpa [World.setCell] using h9.1, fun j t hj => ?_⟩⟩
  · have := h7.set 1 (.int .i64 ((i' : Int) + 1))
    exact this
  · have hc : ∀ off, (w.setCell ⟨r, 1, none⟩ (.int .i64 ((i' : Int) + 1))).cell? ⟨g, off, none⟩ = w.cell? ⟨g, off, none⟩ := fun off =>
      World.cell?_of_block (w := w) (a := ⟨g, off, none⟩) (Below.heap_setCell _ _ _ _ (by show g ≠ r; omega))
    have hj' : ts[j + 1]? = some t := by rw [← List.getElem?_tail]; exact hj
    obtain ⟨z1, z2, z3⟩ := h9.2 (j + 1) t hj'
    have e : o + (i' + 1) * 3 + j * 3 = o + i' * 3 + (j + 1) * 3 := by omega
    rw [e]
    exact ⟨(hc _).trans z1, (hc _).trans z2, (hc _).trans z3⟩
set_option maxRecDepth 100000 in
set_option maxHeartbeats 800000 in
theorem begins_any (w : World) (r : Nat) (ts : List GTok) (a er : Int) (h : RR w r ts a er) :
    Calls Tryd.prog 116 #[.pointer (some ⟨r, 0, none⟩)] w fun e w' => e = .returned (.bool (begB (hd ts))) ∧ Below w.heap.size w w' := by
  obtain ⟨g, o, c, n, i, i1, i2, i3, i4, i5, x1, x2, x3, x4, f1, f2, f3, y1, y2, y3, y4⟩ := h.open
  have hi1 : (i : Int) < (n : Int) := by omega
  have hi0 : 0 ≤ (i : Int) := by omega
  have HB : Hid (begB (hd ts) = ((hd ts).1 == 1 || ((hd ts).1 == 2 || (hd ts).1 == 3))) := Lib.hid rfl
  generalize begB (hd ts) = R at *
  generalize (hd ts).1 = k at *
  generalize (hd ts).2.1 = tx at *
  generalize (hd ts).2.2 = ta at *
  clear h
  obtain ⟨b1, hb1⟩ : ∃ b, (k == 1) = b := ⟨_, rfl⟩
  obtain ⟨b2, hb2⟩ : ∃ b, (k == 2) = b := ⟨_, rfl⟩
  obtain ⟨b3, hb3⟩ : ∃ b, (k == 3) = b := ⟨_, rfl⟩
  rw [hb1, hb2, hb3] at HB
  cases b1 <;> cases b2 <;> cases b3
  all_goals
    go_enter Tryd.func116, Tryd.ntmps116
    go_wp2_with fail
    go_quiet (fail)
    go_wp2_with fail
    go_ret
    exact ⟨ret_bool HB.out.symm, below_drewN (Below.refl _ _) _⟩
def sevenB (s : ByteArray) : Prop := s = sOpen ∨ s = sShut ∨ s = sComma ∨ s = sDot ∨ s = sIf ∨ s = sAnd ∨ s = sNot
set_option maxRecDepth 100000 in
set_option maxHeartbeats 1600000 in
theorem is_yes (w : World) (r : Nat) (ts : List GTok) (a : Int) (s : ByteArray) (hs : sevenB s) (h : RR w r ts a 0) (hb : isB (hd ts) s = true) :
    Calls Tryd.prog 81 #[.pointer (some ⟨r, 0, none⟩), .string s] w fun e w' => e = .returned (.bool true) ∧ Below w.heap.size w w' := by
  have hk : (hd ts).1 = 4 ∨ (hd ts).1 = 5 := by
    rcases h.sy with hk | hk
    · exact hk
    · rw [hk s hs] at hb; cases hb
  obtain ⟨g, o, c, n, i, i1, i2, i3, i4, i5, x1, x2, x3, x4, f1, f2, f3, y1, y2, y3, y4⟩ := h.open
  have hi1 : (i : Int) < (n : Int) := by omega
  have hi0 : 0 ≤ (i : Int) := by omega
  unfold isB at hb
  have hb2 : ((hd ts).2.1.toList == s.toList) = true := hb
  clear h hb hs
  generalize (hd ts).1 = k at *
  generalize (hd ts).2.1 = tx at *
  generalize (hd ts).2.2 = ta at *
  have HH := Lib.hid hb2
  clear hb2
  rcases hk with rfl | rfl
  · have hb2 := HH.out
    have Hb : Hid (∀ w', Below w.heap.size w w' → w'.cell? ⟨r, 0, none⟩ = some (.slice (some ⟨g, o, none⟩) n c) ∧ w'.cell? ⟨r, 1, none⟩ = some (.int .i64 (i : Nat)) ∧ w'.cell? ⟨g, o + i * 3, none⟩ = some (.int .i64 4) ∧ w'.cell? ⟨g, o + i * 3 + 1, none⟩ = some (.string tx) ∧ w'.cell? ⟨g, o + i * 3 + 1 + 1, none⟩ = some (.int .i64 ta) ∧ Hid (Below w.heap.size w w')) := Lib.hid (fun w' g' => ⟨(g'.cell (p := ⟨_, _, none⟩) i3).trans x1, (g'.cell (p := ⟨_, _, none⟩) i3).trans x2, (g'.cell (p := ⟨_, _, none⟩) i5).trans y1, (g'.cell (p := ⟨_, _, none⟩) i5).trans y2, (g'.cell (p := ⟨_, _, none⟩) i5).trans y4, Lib.hid g'⟩)
    go_enter Tryd.func81, Tryd.ntmps81
    go_upto_region 1 with fail
    go_cut [5] (fun s5 wx => s5 = .pointer (some ⟨w.heap.size, 0, none⟩) ∧ Hid (Has wx w.heap.size #[.int .i64 4, .string tx, .int .i64 ta]) ∧ Hid (Below w.heap.size w wx))
    case first =>
      have hs0 := Hb.out _ (Below.refl _ w).drew
      clear x1 x2 x3 x4 f1 f2 f3 y1 y2 y3 y4
      go_region_held3 (fun w' => w'.cell? ⟨r, 0, none⟩ = some (.slice (some ⟨g, o, none⟩) n c) ∧ w'.cell? ⟨r, 1, none⟩ = some (.int .i64 (i : Nat)) ∧ w'.cell? ⟨g, o + i * 3, none⟩ = some (.int .i64 4) ∧ w'.cell? ⟨g, o + i * 3 + 1, none⟩ = some (.string tx) ∧ w'.cell? ⟨g, o + i * 3 + 1 + 1, none⟩ = some (.int .i64 ta) ∧ Hid (Below w.heap.size w w'))
        (first | (with_reducible assumption) | (with_reducible exact ⟨‹_›, ‹_›, ‹_›, ‹_›, ‹_›, ‹_›⟩) | (with_reducible refine Hb.out _ ?_; repeat (first | (with_reducible exact Hid.out (by assumption)) | (with_reducible exact Below.refl _ _) | (with_reducible refine Below.drew ?_) | (with_reducible refine Below.alloc ?_ (Nat.le_refl _) _))))
        (fail)
      all_goals
        go_wp2_with fail
        go_meet
        exact ⟨rfl, Lib.hid (Has.new w _ _).drew, Lib.hid ((Below.refl _ w).alloc (Nat.le_refl _) _).drew⟩
    case rest =>
      obtain ⟨rfl, H5, B5⟩ := hcut
      have z0 := H5.out.cell 0
      have z1 := H5.out.cell 1
      have e3 := (B5.out.cell (p := ⟨r, 3, none⟩) i3).trans x4
      simp only [List.getElem?_toArray, List.getElem?_cons_zero, List.getElem?_cons_succ] at z0 z1
      clear x1 x2 x3 x4 f1 f2 f3 y1 y2 y3 y4 Hb
      go_wp2_with fail
      go_ret
      exact ⟨rfl, B5.out⟩
  · have hb2 := HH.out
    have Hb : Hid (∀ w', Below w.heap.size w w' → w'.cell? ⟨r, 0, none⟩ = some (.slice (some ⟨g, o, none⟩) n c) ∧ w'.cell? ⟨r, 1, none⟩ = some (.int .i64 (i : Nat)) ∧ w'.cell? ⟨g, o + i * 3, none⟩ = some (.int .i64 5) ∧ w'.cell? ⟨g, o + i * 3 + 1, none⟩ = some (.string tx) ∧ w'.cell? ⟨g, o + i * 3 + 1 + 1, none⟩ = some (.int .i64 ta) ∧ Hid (Below w.heap.size w w')) := Lib.hid (fun w' g' => ⟨(g'.cell (p := ⟨_, _, none⟩) i3).trans x1, (g'.cell (p := ⟨_, _, none⟩) i3).trans x2, (g'.cell (p := ⟨_, _, none⟩) i5).trans y1, (g'.cell (p := ⟨_, _, none⟩) i5).trans y2, (g'.cell (p := ⟨_, _, none⟩) i5).trans y4, Lib.hid g'⟩)
    go_enter Tryd.func81, Tryd.ntmps81
    go_upto_region 1 with fail
    go_cut [5] (fun s5 wx => s5 = .pointer (some ⟨w.heap.size, 0, none⟩) ∧ Hid (Has wx w.heap.size #[.int .i64 5, .string tx, .int .i64 ta]) ∧ Hid (Below w.heap.size w wx))
    case first =>
      have hs0 := Hb.out _ (Below.refl _ w).drew
      clear x1 x2 x3 x4 f1 f2 f3 y1 y2 y3 y4
      go_region_held3 (fun w' => w'.cell? ⟨r, 0, none⟩ = some (.slice (some ⟨g, o, none⟩) n c) ∧ w'.cell? ⟨r, 1, none⟩ = some (.int .i64 (i : Nat)) ∧ w'.cell? ⟨g, o + i * 3, none⟩ = some (.int .i64 5) ∧ w'.cell? ⟨g, o + i * 3 + 1, none⟩ = some (.string tx) ∧ w'.cell? ⟨g, o + i * 3 + 1 + 1, none⟩ = some (.int .i64 ta) ∧ Hid (Below w.heap.size w w'))
        (first | (with_reducible assumption) | (with_reducible exact ⟨‹_›, ‹_›, ‹_›, ‹_›, ‹_›, ‹_›⟩) | (with_reducible refine Hb.out _ ?_; repeat (first | (with_reducible exact Hid.out (by assumption)) | (with_reducible exact Below.refl _ _) | (with_reducible refine Below.drew ?_) | (with_reducible refine Below.alloc ?_ (Nat.le_refl _) _))))
        (fail)
      all_goals
        go_wp2_with fail
        go_meet
        exact ⟨rfl, Lib.hid (Has.new w _ _).drew, Lib.hid ((Below.refl _ w).alloc (Nat.le_refl _) _).drew⟩
    case rest =>
      obtain ⟨rfl, H5, B5⟩ := hcut
      have z0 := H5.out.cell 0
      have z1 := H5.out.cell 1
      have e3 := (B5.out.cell (p := ⟨r, 3, none⟩) i3).trans x4
      simp only [List.getElem?_toArray, List.getElem?_cons_zero, List.getElem?_cons_succ] at z0 z1
      clear x1 x2 x3 x4 f1 f2 f3 y1 y2 y3 y4 Hb
      go_wp2_with fail
      go_ret
      exact ⟨rfl, B5.out⟩
set_option maxRecDepth 100000 in
set_option maxHeartbeats 1600000 in
theorem is_no (w : World) (r : Nat) (ts : List GTok) (a : Int) (s : ByteArray) (h : RR w r ts a 0) (hb : isB (hd ts) s = false) :
    Calls Tryd.prog 81 #[.pointer (some ⟨r, 0, none⟩), .string s] w fun e w' => e = .returned (.bool false) ∧ Below w.heap.size w w' := by
  obtain ⟨g, o, c, n, i, i1, i2, i3, i4, i5, x1, x2, x3, x4, f1, f2, f3, y1, y2, y3, y4⟩ := h.open
  have hi1 : (i : Int) < (n : Int) := by omega
  have hi0 : 0 ≤ (i : Int) := by omega
  unfold isB at hb
  have hb2 : ((hd ts).2.1.toList == s.toList) = false := hb
  clear h hb
  generalize (hd ts).1 = k at *
  generalize (hd ts).2.1 = tx at *
  generalize (hd ts).2.2 = ta at *
  obtain ⟨b1, hb1⟩ : ∃ b, (k == 4) = b := ⟨_, rfl⟩
  obtain ⟨b3, hb3⟩ : ∃ b, (k == 5) = b := ⟨_, rfl⟩
  cases b1 <;> cases b3
  all_goals
    have Hb : Hid (∀ w', Below w.heap.size w w' → w'.cell? ⟨r, 0, none⟩ = some (.slice (some ⟨g, o, none⟩) n c) ∧ w'.cell? ⟨r, 1, none⟩ = some (.int .i64 (i : Nat)) ∧ w'.cell? ⟨g, o + i * 3, none⟩ = some (.int .i64 k) ∧ w'.cell? ⟨g, o + i * 3 + 1, none⟩ = some (.string tx) ∧ w'.cell? ⟨g, o + i * 3 + 1 + 1, none⟩ = some (.int .i64 ta) ∧ Hid (Below w.heap.size w w')) := Lib.hid (fun w' g' => ⟨(g'.cell (p := ⟨_, _, none⟩) i3).trans x1, (g'.cell (p := ⟨_, _, none⟩) i3).trans x2, (g'.cell (p := ⟨_, _, none⟩) i5).trans y1, (g'.cell (p := ⟨_, _, none⟩) i5).trans y2, (g'.cell (p := ⟨_, _, none⟩) i5).trans y4, Lib.hid g'⟩)
    go_enter Tryd.func81, Tryd.ntmps81
    go_upto_region 1 with fail
    go_cut [5] (fun s5 wx => s5 = .pointer (some ⟨w.heap.size, 0, none⟩) ∧ Hid (Has wx w.heap.size #[.int .i64 k, .string tx, .int .i64 ta]) ∧ Hid (Below w.heap.size w wx))
    case first =>
      have hs0 := Hb.out _ (Below.refl _ w).drew
      clear x1 x2 x3 x4 f1 f2 f3 y1 y2 y3 y4
      go_region_held3 (fun w' => w'.cell? ⟨r, 0, none⟩ = some (.slice (some ⟨g, o, none⟩) n c) ∧ w'.cell? ⟨r, 1, none⟩ = some (.int .i64 (i : Nat)) ∧ w'.cell? ⟨g, o + i * 3, none⟩ = some (.int .i64 k) ∧ w'.cell? ⟨g, o + i * 3 + 1, none⟩ = some (.string tx) ∧ w'.cell? ⟨g, o + i * 3 + 1 + 1, none⟩ = some (.int .i64 ta) ∧ Hid (Below w.heap.size w w'))
        (first | (with_reducible assumption) | (with_reducible exact ⟨‹_›, ‹_›, ‹_›, ‹_›, ‹_›, ‹_›⟩) | (with_reducible refine Hb.out _ ?_; repeat (first | (with_reducible exact Hid.out (by assumption)) | (with_reducible exact Below.refl _ _) | (with_reducible refine Below.drew ?_) | (with_reducible refine Below.alloc ?_ (Nat.le_refl _) _))))
        (fail)
      all_goals
        go_wp2_with fail
        go_meet
        exact ⟨rfl, Lib.hid (Has.new w _ _).drew, Lib.hid ((Below.refl _ w).alloc (Nat.le_refl _) _).drew⟩
    case rest =>
      obtain ⟨rfl, H5, B5⟩ := hcut
      have z0 := H5.out.cell 0
      have z1 := H5.out.cell 1
      have e3 := (B5.out.cell (p := ⟨r, 3, none⟩) i3).trans x4
      simp only [List.getElem?_toArray, List.getElem?_cons_zero, List.getElem?_cons_succ] at z0 z1
      clear x1 x2 x3 x4 f1 f2 f3 y1 y2 y3 y4 Hb
      go_wp2_with fail
      go_ret
      exact ⟨rfl, B5.out⟩
set_option maxRecDepth 100000 in
set_option maxHeartbeats 1600000 in
theorem is_err (w : World) (r : Nat) (ts : List GTok) (a er : Int) (s : ByteArray) (h : RR w r ts a er) (her : er ≠ 0) :
    Calls Tryd.prog 81 #[.pointer (some ⟨r, 0, none⟩), .string s] w fun e w' => e = .returned (.bool false) ∧ Below w.heap.size w w' := by
  obtain ⟨g, o, c, n, i, i1, i2, i3, i4, i5, x1, x2, x3, x4, f1, f2, f3, y1, y2, y3, y4⟩ := h.open
  have hi1 : (i : Int) < (n : Int) := by omega
  have hi0 : 0 ≤ (i : Int) := by omega
  have he : (er == 0) = false := by rw [beq_eq_false_iff_ne]; exact her
  clear h her
  generalize (hd ts).1 = k at *
  generalize (hd ts).2.1 = tx at *
  generalize (hd ts).2.2 = ta at *
  have Hb : Hid (∀ w', Below w.heap.size w w' → w'.cell? ⟨r, 0, none⟩ = some (.slice (some ⟨g, o, none⟩) n c) ∧ w'.cell? ⟨r, 1, none⟩ = some (.int .i64 (i : Nat)) ∧ w'.cell? ⟨g, o + i * 3, none⟩ = some (.int .i64 k) ∧ w'.cell? ⟨g, o + i * 3 + 1, none⟩ = some (.string tx) ∧ w'.cell? ⟨g, o + i * 3 + 1 + 1, none⟩ = some (.int .i64 ta) ∧ Hid (Below w.heap.size w w')) := Lib.hid (fun w' g' => ⟨(g'.cell (p := ⟨_, _, none⟩) i3).trans x1, (g'.cell (p := ⟨_, _, none⟩) i3).trans x2, (g'.cell (p := ⟨_, _, none⟩) i5).trans y1, (g'.cell (p := ⟨_, _, none⟩) i5).trans y2, (g'.cell (p := ⟨_, _, none⟩) i5).trans y4, Lib.hid g'⟩)
  go_enter Tryd.func81, Tryd.ntmps81
  go_upto_region 1 with fail
  go_cut [5] (fun s5 wx => s5 = .pointer (some ⟨w.heap.size, 0, none⟩) ∧ Hid (Has wx w.heap.size #[.int .i64 k, .string tx, .int .i64 ta]) ∧ Hid (Below w.heap.size w wx))
  case first =>
    have hs0 := Hb.out _ (Below.refl _ w).drew
    clear x1 x2 x3 x4 f1 f2 f3 y1 y2 y3 y4
    go_region_held3 (fun w' => w'.cell? ⟨r, 0, none⟩ = some (.slice (some ⟨g, o, none⟩) n c) ∧ w'.cell? ⟨r, 1, none⟩ = some (.int .i64 (i : Nat)) ∧ w'.cell? ⟨g, o + i * 3, none⟩ = some (.int .i64 k) ∧ w'.cell? ⟨g, o + i * 3 + 1, none⟩ = some (.string tx) ∧ w'.cell? ⟨g, o + i * 3 + 1 + 1, none⟩ = some (.int .i64 ta) ∧ Hid (Below w.heap.size w w'))
      (first | (with_reducible assumption) | (with_reducible exact ⟨‹_›, ‹_›, ‹_›, ‹_›, ‹_›, ‹_›⟩) | (with_reducible refine Hb.out _ ?_; repeat (first | (with_reducible exact Hid.out (by assumption)) | (with_reducible exact Below.refl _ _) | (with_reducible refine Below.drew ?_) | (with_reducible refine Below.alloc ?_ (Nat.le_refl _) _))))
      (fail)
    all_goals
      go_wp2_with fail
      go_meet
      exact ⟨rfl, Lib.hid (Has.new w _ _).drew, Lib.hid ((Below.refl _ w).alloc (Nat.le_refl _) _).drew⟩
  case rest =>
    obtain ⟨rfl, H5, B5⟩ := hcut
    have z0 := H5.out.cell 0
    have z1 := H5.out.cell 1
    have e3 := (B5.out.cell (p := ⟨r, 3, none⟩) i3).trans x4
    simp only [List.getElem?_toArray, List.getElem?_cons_zero, List.getElem?_cons_succ] at z0 z1
    clear x1 x2 x3 x4 f1 f2 f3 y1 y2 y3 y4 Hb
    go_wp2_with fail
    go_ret
    exact ⟨rfl, B5.out⟩
set_option maxRecDepth 100000 in
set_option maxHeartbeats 1600000 in
theorem fail_ok (w : World) (r : Nat) (ts : List GTok) (a er : Int) (h : RR w r ts a 0) :
    Calls Tryd.prog 56 #[.pointer (some ⟨r, 0, none⟩), .int .i64 er] w fun e w' => e = .returned (.tuple #[]) ∧ RR w' r ts (hd ts).2.2 er ∧ Ch r w w' := by
  have HR := Lib.hid h
  obtain ⟨g, o, c, n, i, i1, i2, i3, i4, i5, x1, x2, x3, x4, f1, f2, f3, y1, y2, y3, y4⟩ := h.open
  have hi1 : (i : Int) < (n : Int) := by omega
  have hi0 : 0 ≤ (i : Int) := by omega
  clear h
  generalize (hd ts).1 = k at *
  generalize (hd ts).2.1 = tx at *
  generalize (hd ts).2.2 = ta at *
  go_enter Tryd.func56, Tryd.ntmps56
  go_wp2_with fail
  go_still_tail 14, (by kernel_rfl)
  change wpList _ _ _ _ _ w.drew
  go_wp2_with fail
  go_end0
  exact ⟨rfl, RR.fail (w := w.drew) HR.out ta er, ((Ch.refl r w).below (Below.refl _ _).drew |>.put (Or.inl rfl) _).put (Or.inl rfl) _⟩
set_option maxRecDepth 100000 in
set_option maxHeartbeats 1600000 in
theorem fail_err (w : World) (r : Nat) (ts : List GTok) (a er er2 : Int) (h : RR w r ts a er) (her : er ≠ 0) :
    Calls Tryd.prog 56 #[.pointer (some ⟨r, 0, none⟩), .int .i64 er2] w fun e w' => e = .returned (.tuple #[]) ∧ w = w' := by
  obtain ⟨g, o, c, n, i, i1, i2, i3, i4, i5, x1, x2, x3, x4, f1, f2, f3, y1, y2, y3, y4⟩ := h.open
  have hi1 : (i : Int) < (n : Int) := by omega
  have hi0 : 0 ≤ (i : Int) := by omega
  have he : (er == 0) = false := by rw [beq_eq_false_iff_ne]; exact her
  clear h her
  go_enter Tryd.func56, Tryd.ntmps56
  go_wp2_with fail
  go_end0
  exact ⟨rfl, rfl⟩
end RefA
end Go.Proofs.YtfdpelokiljigaaDoor
