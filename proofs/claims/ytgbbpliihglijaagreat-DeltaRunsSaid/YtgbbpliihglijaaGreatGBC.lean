/- Texts laid together: RdM; UniM; UniK; RdA; RdB; RdN; UniD. Their own heads stand before each. -/
import Derived.Test.YtgbbpliihglijaaGreatGAA
import Derived.Test.YtgbbpliihglijaaGreatGAE
import Derived.WalkSmall
import Derived.WalkLawsBesides
import Derived.Laws.ResultCell
import Derived.Deep.QuietTactic
import Derived.BigQuiet
import Derived.Deep.RegionHeld3
import Derived.Deep.DeepCutAuto
import Derived.OwnWalk
import Derived.Laws.OwnMore
/- gameplayerplain's reader as plain functions over what is left of the text. No conditions. -/
namespace Go.Proofs.YtgbbpliihglijaaGreat
open Go
namespace RdM
open LexM TermM
def bl (c : UInt8) : Bool := c == 32 || c == 10
def wd (c : UInt8) : Bool := c == 45 || (48 ≤ c && c ≤ 57 || (97 ≤ c && c ≤ 122 || 65 ≤ c && c ≤ 90))
def blankL (l : List UInt8) : List UInt8 := l.dropWhile bl
def wordL (l : List UInt8) : List UInt8 × List UInt8 := ((blankL l).takeWhile wd, (blankL l).dropWhile wd)
def signL (c : UInt8) (l : List UInt8) : Bool × List UInt8 := match blankL l with
  | x :: r => if x = c then (true, r) else (false, x :: r)
  | [] => (false, [])
def bs (l : List UInt8) : ByteArray := ⟨l.toArray⟩
mutual
/-- The rest of a term that begins with a word. -/
def termL : Nat → List UInt8 → List UInt8 → Tm × List UInt8
  | 0, n, l => (.mk (bs n) [], l)
  | f + 1, n, l => if (signL 40 l).1 then (.mk (bs n) (argsL f (signL 40 l).2).1, (signL 41 (argsL f (signL 40 l).2).2).2) else (.mk (bs n) [], (signL 40 l).2)
def argsL : Nat → List UInt8 → List Tm × List UInt8
  | 0, l => ([], l)
  | f + 1, l => if l.isEmpty then ([], l) else
    if (signL 44 (termL f (wordL l).1 (wordL l).2).2).1 then ((termL f (wordL l).1 (wordL l).2).1 :: (argsL f (signL 44 (termL f (wordL l).1 (wordL l).2).2).2).1, (argsL f (signL 44 (termL f (wordL l).1 (wordL l).2).2).2).2)
    else ([(termL f (wordL l).1 (wordL l).2).1], (signL 44 (termL f (wordL l).1 (wordL l).2).2).2)
end
def term (n l : List UInt8) : Tm × List UInt8 := termL (2 * l.length + 1) n l
/-- The literals of a body. -/
def bodyL : Nat → List UInt8 → List (Bool × Tm) × List UInt8
  | 0, l => ([], l)
  | f + 1, l => if l.isEmpty then ([], l) else if (signL 46 l).1 then ([], (signL 46 l).2) else
    let w1 := wordL (wordL (signL 46 l).2).2
    let not := w1.1 == [110, 111, 116]
    let w := if not then wordL w1.2 else w1
    if w.1.isEmpty then ([], w.2) else
    let t := term w.1 w.2
    let r := bodyL f t.2
    ((not, t.1) :: r.1, r.2)
def rule (n l : List UInt8) : (Tm × List (Bool × Tm)) × List UInt8 :=
  let t := term n l
  let b := bodyL (t.2.length + 1) t.2
  ((t.1, b.1), b.2)
def rulesL : Nat → List UInt8 → List (Tm × List (Bool × Tm))
  | 0, _ => []
  | f + 1, l => if (wordL l).1.isEmpty then [] else (rule (wordL l).1 (wordL l).2).1 :: rulesL f (rule (wordL l).1 (wordL l).2).2
/-- The rules of a trusted description. -/
def read (s : List UInt8) : List (Tm × List (Bool × Tm)) := rulesL (s.length + 1) s
def atom (s : List UInt8) : Tm := (term (wordL s).1 (wordL s).2).1
def atomsL : Nat → List UInt8 → List Tm
  | 0, _ => []
  | f + 1, l => if l.isEmpty then [] else
    let t := term (wordL l).1 (wordL l).2
    if (signL 44 t.2).1 then t.1 :: atomsL f (signL 44 t.2).2 else [t.1]
def atoms (s : List UInt8) : List Tm := atomsL (s.length + 1) s
/-! ### Lengths -/
theorem blank_len (l : List UInt8) : (blankL l).length ≤ l.length := (List.dropWhile_suffix _).length_le
theorem word_split (l : List UInt8) : (wordL l).1 ++ (wordL l).2 = blankL l := List.takeWhile_append_dropWhile
theorem word_len (l : List UInt8) : (wordL l).1.length + (wordL l).2.length ≤ l.length := by
  have h := congrArg List.length (word_split l)
  rw [List.length_append] at h
  have := blank_len l
  omega
theorem sign_len (c : UInt8) (l : List UInt8) : (signL c l).2.length + (if (signL c l).1 then 1 else 0) ≤ l.length := by
  have := blank_len l
  unfold signL
  cases h : blankL l with
  | nil => simp
  | cons x r =>
    rw [h, List.length_cons] at this
    by_cases e : x = c
    · simp [e]; omega
    · simp [e]; omega
theorem sign_yes {c : UInt8} {l : List UInt8} (h : (signL c l).1 = true) : (signL c l).2.length + 1 ≤ l.length := by
  have := sign_len c l
  rw [if_pos h] at this
  exact this
theorem sign_le (c : UInt8) (l : List UInt8) : (signL c l).2.length ≤ l.length := by
  have := sign_len c l
  omega
theorem term_len : ∀ f, (∀ n l, (termL f n l).2.length ≤ l.length) ∧ ∀ l, (argsL f l).2.length ≤ l.length
  | 0 => ⟨fun _ _ => Nat.le_refl _, fun _ => Nat.le_refl _⟩
  | f + 1 => by
    obtain ⟨h1, h2⟩ := term_len f
    refine ⟨fun n l => ?_, fun l => ?_⟩
    · rw [termL]
      have a := sign_le 40 l
      split
      · have b := h2 (signL 40 l).2
        have c := sign_le 41 (argsL f (signL 40 l).2).2
        dsimp only
        omega
      · exact a
    · rw [argsL]
      have a := word_len l
      have b := h1 (wordL l).1 (wordL l).2
      have c := sign_le 44 (termL f (wordL l).1 (wordL l).2).2
      split
      · exact Nat.le_refl _
      · split
        · have d := h2 (signL 44 (termL f (wordL l).1 (wordL l).2).2).2
          dsimp only
          omega
        · dsimp only
          omega
theorem term_le (n l : List UInt8) : (term n l).2.length ≤ l.length := (term_len _).1 n l
/-- Fuel enough is enough. -/
theorem fuel : ∀ f, (∀ n l g, 2 * l.length + 1 ≤ f → f ≤ g → termL g n l = termL f n l) ∧ ∀ l g, 2 * l.length + 2 ≤ f → f ≤ g → argsL g l = argsL f l
  | 0 => ⟨fun _ _ _ h => by omega, fun _ _ h => by omega⟩
  | f + 1 => by
    obtain ⟨h1, h2⟩ := fuel f
    refine ⟨fun n l g hl hg => ?_, fun l g hl hg => ?_⟩
    · obtain ⟨g, rfl⟩ : ∃ k, g = k + 1 := ⟨g - 1, by omega⟩
      rw [termL, termL]
      by_cases hs : (signL 40 l).1 = true
      · have := sign_yes hs
        rw [if_pos hs, if_pos hs, h2 (signL 40 l).2 g (by omega) (by omega)]
      · rw [if_neg hs, if_neg hs]
    · obtain ⟨g, rfl⟩ : ∃ k, g = k + 1 := ⟨g - 1, by omega⟩
      rw [argsL, argsL]
      have a := word_len l
      have e := h1 (wordL l).1 (wordL l).2 g (by omega) (by omega)
      rw [e]
      have b := (term_len f).1 (wordL l).1 (wordL l).2
      by_cases hs : (signL 44 (termL f (wordL l).1 (wordL l).2).2).1 = true
      · have := sign_yes hs
        rw [if_pos hs, if_pos hs, h2 _ g (by omega) (by omega)]
      · rw [if_neg hs, if_neg hs]
theorem term_any (n l : List UInt8) {f : Nat} (h : 2 * l.length + 1 ≤ f) : termL f n l = term n l := (fuel _).1 n l f (Nat.le_refl _) h
end RdM
end Go.Proofs.YtgbbpliihglijaaGreat
/- Substitutions as plain data: validity, look-up, replacement, matching, composition. No conditions. -/
namespace Go.Proofs.YtgbbpliihglijaaGreat
open Go
namespace UniM
open LexM TermM
abbrev Bd := ByteArray × Tm
def eqB (a b : ByteArray) : Bool := a.data.toList == b.data.toList
theorem eqB_iff {a b : ByteArray} : eqB a b = true ↔ a = b := by
  unfold eqB
  rw [beq_iff_eq]
  exact ⟨bytes_inj, fun h => by rw [h]⟩
/-- The order of names by their bytes. -/
def ltB (a b : ByteArray) : Bool := Op.bytesLess a.data.toList b.data.toList
theorem lt_lex {a b : ByteArray} : ltB a b = true ↔ lexB a.data.toList b.data.toList < 0 := by
  unfold ltB
  rw [lex_less]
  constructor
  · intro h; rw [if_pos h]; decide
  · intro h
    by_cases c : Op.bytesLess a.data.toList b.data.toList = true
    · exact c
    · rw [if_neg c] at h
      split at h <;> omega
def ascB : List Bd → Bool
  | [] => true
  | [_] => true
  | a :: b :: r => ltB a.1 b.1 && ascB (b :: r)
def vldS (s : List Bd) : Bool := decide (s.length ≤ 64) && (s.all (fun b => varB b.1 && validT false 4 b.2) && ascB s)
def lookS (s : List Bd) (v : ByteArray) : Option Tm := (s.find? fun b => eqB b.1 v).map (·.2)
mutual
/-- Each leaf that is bound is replaced. -/
def appT (s : List Bd) : Tm → Tm
  | .mk n l => if l.isEmpty then (lookS s n).getD (.mk n []) else .mk n (appL s l)
def appL (s : List Bd) : List Tm → List Tm
  | [] => []
  | t :: l => appT s t :: appL s l
end
theorem appL_map (s : List Bd) : ∀ l, appL s l = l.map (appT s)
  | [] => rfl
  | t :: l => by simp [appL, appL_map s l]
end UniM
end Go.Proofs.YtgbbpliihglijaaGreat
/- Rows of elements of three cells in memory (literals, rules, bindings), with lists behind them; for seats without the parser. Made by genunik.py. No conditions. -/
namespace Go.Proofs.YtgbbpliihglijaaGreat
open Go Go.RowKit
namespace UniK
open Kit LexM TermM TermI TermU UniM
abbrev Lt := Bool × Tm
abbrev Rl := Tm × List Lt
/-- Of what was there only block r may have turned. -/
abbrev Ch (r : Nat) (a b : World) : Prop := a.grownBy b (some r)
theorem Ch.refl (r : Nat) (w : World) : Ch r w w := ⟨rfl, rfl, rfl, Nat.le_refl _, fun _ _ _ => rfl⟩
theorem Ch.trans {r : Nat} {a b c : World} (h : Ch r a b) (k : Ch r b c) : Ch r a c :=
  ⟨World.grownBy.os k |>.trans h.os, k.tape.trans h.tape, k.output.trans h.output, Nat.le_trans h.size k.size, fun i hi hr => (k.block i (Nat.lt_of_lt_of_le hi h.size) hr).trans (h.block i hi hr)⟩
theorem Ch.of {r : Nat} {a b : World} (h : Below a.heap.size a b) : Ch r a b := ⟨h.os, h.tape, h.output, h.size, fun i hi _ => h.block i hi⟩
theorem Ch.below {r : Nat} {a b c : World} (h : Ch r a b) (k : Below b.heap.size b c) : Ch r a c := h.trans (Ch.of k)
theorem Ch.put {r : Nat} {a b : World} (h : Ch r a b) {p : Addr} (hp : p.block = r ∨ a.heap.size ≤ p.block) (u : Value) : Ch r a (b.setCell p u) := by
  refine ⟨h.os, h.tape, h.output, Nat.le_trans h.size (by simp [World.setCell]), fun i hi hr => (Below.heap_setCell _ _ _ _ (fun e => ?_)).trans (h.block i hi hr)⟩
  rcases hp with hp | hp
  · exact hr (by rw [e, hp])
  · omega
theorem Ch.alloc {r : Nat} {a b : World} (h : Ch r a b) (o : Obj) : Ch r a (b.alloc o) := h.below (below_alloc b o)
theorem Ch.grown {r : Nat} {a b c : World} {row : Option Nat} (h : Ch r a b) (hg : b.grownBy c row) (hr : ∀ k, row = some k → a.heap.size ≤ k) : Ch r a c :=
  ⟨hg.os.trans h.os, hg.tape.trans h.tape, hg.output.trans h.output, Nat.le_trans h.size hg.size, fun i hi hne => (hg.block i (Nat.lt_of_lt_of_le hi h.size) (fun e => by have := hr i e.symm; omega)).trans (h.block i hi hne)⟩
theorem Ch.cell {r : Nat} {a b : World} (h : Ch r a b) {g o : Nat} (hg : g < a.heap.size) (hne : g ≠ r) : b.cell? ⟨g, o, none⟩ = a.cell? ⟨g, o, none⟩ :=
  World.cell?_of_block (w := a) (a := ⟨g, o, none⟩) (h.block g hg (fun e => hne (Option.some.inj e)))
theorem Ch.has {r : Nat} {a b : World} {g : Nat} {cs : Array Value} (h : Ch r a b) (k : Has a g cs) (hne : g ≠ r) : Has b g cs := by
  have hl := k.lt
  obtain ⟨t, k⟩ := k
  exact ⟨t, (h.block g hl (fun e => hne (Option.some.inj e))).trans k⟩
theorem Ch.toBelow {r B : Nat} {a b : World} (h : Ch r a b) (hB : B ≤ r) (hs : B ≤ a.heap.size) : Below B a b :=
  ⟨h.os, h.tape, h.output, h.size, fun i hi => h.block i (by omega) (fun e => by have := Option.some.inj e; omega)⟩
/-- Terms that lie in new blocks stay. -/
theorem slin_ch {r lo : Nat} {a b : World} {l : List Tm} {v : Value} (h : SlIn (fun k => lo ≤ k ∧ k < a.heap.size) a l v) (g : Ch r a b) (hr : r < lo) : SlIn (fun k => lo ≤ k ∧ k < b.heap.size) b l v :=
  (h.frame fun k _ hk => g.cell hk.2 (by omega)).weaken fun k hk => ⟨hk.1, Nat.lt_of_lt_of_le hk.2 g.size⟩
theorem own_ch {r base : Nat} {a b : World} {L : List (Tm × Value)} {v : Value} (h : Own base a L v) (g : Ch r a b) (hr : r < base) : Own base b L v := by
  obtain ⟨h1, ok, h2, h3⟩ := h
  have hl := h1.lt
  refine ⟨⟨h1.1, ?_⟩, ok, fun b hk => ⟨(h2 b hk).1, Nat.lt_of_lt_of_le (h2 b hk).2.1 g.size, (h2 b hk).2.2⟩, fun x hx => ⟨(h3 x hx).1.frame fun b o hk => g.cell (h2 b hk).2.1 (by have := (h2 b hk).1; omega), (h3 x hx).2⟩⟩
  rcases h1.2 with h | ⟨k, cap, cur, e1, e2, e3, e4⟩
  · exact Or.inl h
  · exact Or.inr ⟨k, cap, cur, e1, e2, (g.block k (hl k (by rw [e1]; rfl)).2 (fun e => by have := Option.some.inj e; omega)).trans e3, e4⟩
/-- A kind of elements of three cells. -/
structure Kd (α : Type) where
  ty : TypeId
  cells : α → List Value
  inn : (Nat → Prop) → World → α → Prop
  len : ∀ x, (cells x).length = 3
  keep : ∀ {ok : Nat → Prop} {w w' : World} {x : α}, inn ok w x → (∀ b o, ok b → w'.cell? ⟨b, o, none⟩ = w.cell? ⟨b, o, none⟩) → inn ok w' x
  wide : ∀ {ok ok' : Nat → Prop} {w : World} {x : α}, inn ok w x → (∀ b, ok b → ok' b) → inn ok' w x
def Kd.flat {α : Type} (K : Kd α) (L : List α) : List Value := L.flatMap K.cells
section
variable {α : Type} {K : Kd α}
theorem flat_app (a b : List α) : K.flat (a ++ b) = K.flat a ++ K.flat b := by simp [Kd.flat]
theorem flat_one (a : α) : K.flat [a] = K.cells a := by simp [Kd.flat]
theorem flat_len (L : List α) : (K.flat L).length = L.length * 3 := by
  induction L with
  | nil => rfl
  | cons a L ih =>
    have := K.len a
    simp only [Kd.flat, List.flatMap_cons, List.length_append, List.length_cons] at ih ⊢
    omega
theorem flat_get : ∀ (L : List α) (i : Nat) (x : α), L[i]? = some x → ∀ (j : Nat) (u : Value), (K.cells x)[j]? = some u → (K.flat L)[i * 3 + j]? = some u
  | [], i, x, h => by simp at h
  | a :: L, 0, x, h => by
    intro j u hu
    simp at h
    subst h
    have hj := (List.getElem?_eq_some_iff.1 hu).1
    simp only [Kd.flat, List.flatMap_cons]
    rw [List.getElem?_append_left (by omega), show 0 * 3 + j = j by omega]
    exact hu
  | a :: L, i + 1, x, h => by
    intro j u hu
    have ih := flat_get L i x (by simpa using h) j u hu
    have hl := K.len a
    simp only [Kd.flat, List.flatMap_cons] at ih ⊢
    rw [List.getElem?_append_right (by omega), show (i + 1) * 3 + j - (K.cells a).length = i * 3 + j by omega]
    exact ih
/-- A row of the call's own that holds the elements; what is behind them lies in other blocks from base on. -/
def OwnG (K : Kd α) (base : Nat) (w : World) (L : List α) (v : Value) : Prop :=
  w.ownsRow base K.ty 3 v L.length (K.flat L) ∧ ∃ ok : Nat → Prop, (∀ b, ok b → base ≤ b ∧ b < w.heap.size ∧ v.ownBlock ≠ some b) ∧ ∀ x ∈ L, K.inn ok w x
/-- A slice value that holds the elements in blocks of a kind. -/
def RowG (K : Kd α) (ok : Nat → Prop) (w : World) (L : List α) (v : Value) : Prop :=
  ∃ p c, v = .slice p L.length c ∧ L.length ≤ c ∧ c ≤ maxLen ∧ (∀ x ∈ L, K.inn ok w x) ∧ (0 < L.length → ∃ g o, p = some ⟨g, o, none⟩ ∧ ok g ∧ ∀ i x, L[i]? = some x → ∀ j u, (K.cells x)[j]? = some u → w.cell? ⟨g, o + i * 3 + j, none⟩ = some u)
variable {ok ok' : Nat → Prop} {base : Nat} {w w' : World} {L : List α} {v : Value}
theorem RowG.nil (ok : Nat → Prop) (w : World) : RowG K ok w [] (.slice none 0 0) := ⟨none, 0, rfl, Nat.le_refl _, Nat.zero_le _, fun x h => by simp at h, fun h => by simp at h⟩
theorem RowG.keep (h : RowG K ok w L v) (hf : ∀ b o, ok b → w'.cell? ⟨b, o, none⟩ = w.cell? ⟨b, o, none⟩) : RowG K ok w' L v := by
  obtain ⟨p, c, h1, h2, h3, h4, h5⟩ := h
  refine ⟨p, c, h1, h2, h3, fun x hx => K.keep (h4 x hx) hf, fun hl => ?_⟩
  obtain ⟨g, o, e1, e2, e3⟩ := h5 hl
  exact ⟨g, o, e1, e2, fun i x hx j u hu => (hf _ _ e2).trans (e3 i x hx j u hu)⟩
theorem RowG.wide (h : RowG K ok w L v) (hk : ∀ b, ok b → ok' b) : RowG K ok' w L v := by
  obtain ⟨p, c, h1, h2, h3, h4, h5⟩ := h
  refine ⟨p, c, h1, h2, h3, fun x hx => K.wide (h4 x hx) hk, fun hl => ?_⟩
  obtain ⟨g, o, e1, e2, e3⟩ := h5 hl
  exact ⟨g, o, e1, hk _ e2, e3⟩
theorem OwnG.nil (base : Nat) (w : World) : OwnG K base w [] (.slice none 0 0) :=
  ⟨⟨rfl, Or.inl ⟨rfl, rfl⟩⟩, fun _ => False, fun b h => h.elim, fun x h => by simp at h⟩
theorem OwnG.form (h : OwnG K base w L v) : ∃ a c, v = .slice a L.length c := by
  rcases h.1.2 with ⟨e, hz⟩ | ⟨g, cap, cur, e, _⟩
  · exact ⟨none, 0, by rw [e, hz]⟩
  · exact ⟨_, cap, e⟩
theorem OwnG.ch {r : Nat} (h : OwnG K base w L v) (g : Ch r w w') (hr : r < base) : OwnG K base w' L v := by
  obtain ⟨h1, ok, h2, h3⟩ := h
  have hl := h1.lt
  refine ⟨⟨h1.1, ?_⟩, ok, fun b hk => ⟨(h2 b hk).1, Nat.lt_of_lt_of_le (h2 b hk).2.1 g.size, (h2 b hk).2.2⟩, fun x hx => K.keep (h3 x hx) fun b o hk => g.cell (h2 b hk).2.1 (by have := (h2 b hk).1; omega)⟩
  rcases h1.2 with h | ⟨k, cap, cur, e1, e2, e3, e4⟩
  · exact Or.inl h
  · exact Or.inr ⟨k, cap, cur, e1, e2, (g.block k (hl k (by rw [e1]; rfl)).2 (fun e => by have := Option.some.inj e; omega)).trans e3, e4⟩
theorem OwnG.add {w2 w3 : World} {o : Obj} {lo g cap : Nat} {x : α} (h : OwnG K base w2 L v) (hs : K.inn (fun b => lo ≤ b ∧ b < w2.heap.size) w2 x) (hlo : base ≤ lo) (hv : ∀ k, v.ownBlock = some k → k < lo)
    (hown : w3.ownsRow base K.ty 3 (.slice (some ⟨g, 0, none⟩) (L.length + 1) cap) (L.length + 1) (K.flat L ++ K.cells x)) (hgrow : (w2.alloc o).grownBy w3 v.ownBlock) (hat : v.ownBlock = some g ∨ g = w2.heap.size + 1) :
    OwnG K base w3 (L ++ [x]) (.slice (some ⟨g, 0, none⟩) (L.length + 1) cap) := by
  obtain ⟨h1, ok, h2, h3⟩ := h
  have hsz : w2.heap.size + 1 ≤ w3.heap.size := by have := hgrow.size; simpa using this
  have fr : ∀ b o, b < w2.heap.size → v.ownBlock ≠ some b → w3.cell? ⟨b, o, none⟩ = w2.cell? ⟨b, o, none⟩ := fun b o hb hne => by
    refine World.cell?_of_block (w := w2) (a := ⟨b, o, none⟩) ?_
    exact (hgrow.block b (by simp; omega) (fun e => hne e.symm)).trans (Below.heap_alloc _ _ _ hb)
  refine ⟨by rw [List.length_append, flat_app, flat_one]; exact hown, fun b => ok b ∨ (lo ≤ b ∧ b < w2.heap.size), fun b hk => ?_, fun y hy => ?_⟩
  · rcases hk with hk | hk
    · obtain ⟨a1, a2, a3⟩ := h2 b hk
      refine ⟨a1, by omega, ?_⟩
      intro e
      have e' : g = b := by simpa [Value.ownBlock] using e
      rcases hat with h | h
      · exact a3 (by rw [h, e'])
      · omega
    · refine ⟨by omega, by omega, ?_⟩
      intro e
      have e' : g = b := by simpa [Value.ownBlock] using e
      rcases hat with h | h
      · have := hv g h; omega
      · omega
  · rcases List.mem_append.1 hy with hy | hy
    · exact K.wide (K.keep (h3 y hy) fun b o hk => fr b o (h2 b hk).2.1 (h2 b hk).2.2) fun b hk => Or.inl hk
    · obtain rfl := List.mem_singleton.1 hy
      exact K.wide (K.keep hs fun b o hk => fr b o hk.2 (fun e => by have := hv b e; omega)) fun b hk => Or.inr hk
theorem OwnG.row (h : OwnG K base w L v) : RowG K (fun b => base ≤ b ∧ b < w.heap.size) w L v := by
  obtain ⟨h1, ok, h2, h3⟩ := h
  have hl := h1.lt
  have h3' : ∀ x ∈ L, K.inn (fun b => base ≤ b ∧ b < w.heap.size) w x := fun x hx => K.wide (h3 x hx) fun b hk => ⟨(h2 b hk).1, (h2 b hk).2.1⟩
  rcases h1.2 with ⟨e, hz⟩ | ⟨g, cap, cur, e, e2, e3, e4, e5, _⟩
  · exact ⟨none, 0, by rw [e, hz], by omega, Nat.zero_le _, h3', fun h => by omega⟩
  · subst e
    refine ⟨_, cap, rfl, e4, e5, h3', fun _ => ⟨g, 0, rfl, hl g rfl, fun i x hx j u hu => ?_⟩⟩
    have hi := (List.getElem?_eq_some_iff.1 hx).1
    have hj := (List.getElem?_eq_some_iff.1 hu).1
    rw [K.len] at hj
    rw [show 0 + i * 3 + j = i * 3 + j by omega]
    exact (h1.cellAt _ (by omega)).trans (flat_get L i x hx j u hu)
theorem OwnG.one {x : α} (h : K.inn (fun b => base ≤ b ∧ b < w.heap.size) w x) (hb : base ≤ w.heap.size) :
    OwnG K base (w.alloc (.cells (K.cells x).toArray K.ty)) [x] (.slice (some ⟨w.heap.size, 0, none⟩) 1 1) := by
  refine ⟨?_, fun b => base ≤ b ∧ b < w.heap.size, fun b hk => ⟨hk.1, by rw [World.size_alloc]; omega, fun e => ?_⟩, fun y hy => ?_⟩
  · have hh := World.ownsRow_lit (e := K.ty) (size := 3) (base := base) w (K.cells x).toArray 1 hb (by unfold maxLen; omega) (by simp [K.len])
    rw [flat_one]
    simpa using hh
  · have e' : w.heap.size = b := Option.some.inj e
    omega
  · obtain rfl := List.mem_singleton.1 hy
    exact K.keep h fun b o hk => (below_alloc w _).cell (p := ⟨b, o, none⟩) hk.2
theorem rowg_ch {r lo : Nat} (h : RowG K (fun k => lo ≤ k ∧ k < w.heap.size) w L v) (g : Ch r w w') (hr : r < lo) : RowG K (fun k => lo ≤ k ∧ k < w'.heap.size) w' L v :=
  (h.keep fun k _ hk => g.cell hk.2 (by omega)).wide fun k hk => ⟨hk.1, Nat.lt_of_lt_of_le hk.2 g.size⟩
end
theorem newsK (w : World) (a b c : Value) (t : TypeId) : ∀ j u, [a, b, c][j]? = some u → (w.alloc (.cells #[a, b, c] t)).cell? ((⟨w.heap.size, 0, none⟩ : Addr).add j) = some u := World.news_of_block (heap_alloc_new w _)
theorem one_L (b : Bool) (a : ByteArray) (p : Option Addr) (n c : Nat) : ∀ u ∈ [Value.bool b, .string a, .slice p n c], u.oneCell' = true := by
  intro u hu
  simp at hu
  rcases hu with rfl | rfl | rfl <;> rfl
theorem one_R (a : ByteArray) (p q : Option Addr) (n c m d : Nat) : ∀ u ∈ [Value.string a, .slice p n c, .slice q m d], u.oneCell' = true := by
  intro u hu
  simp at hu
  rcases hu with rfl | rfl | rfl <;> rfl
/-- The bindings of a list, three cells each. -/
def RowS (B : Nat) (w : World) (l : List Bd) (p : Option Addr) : Prop := ∀ k, k < l.length → ∃ t b o q d, l[k]? = some t ∧ p = some ⟨b, o, none⟩ ∧ b < B ∧ w.cell? ⟨b, o + k * 3, none⟩ = some (.string t.1) ∧ w.cell? ⟨b, o + k * 3 + 1, none⟩ = some (.string t.2.nm) ∧
  w.cell? ⟨b, o + k * 3 + 1 + 1, none⟩ = some (.slice q t.2.args.length d) ∧ SlIn (· < B) w t.2.args (.slice q t.2.args.length d) ∧ t.2.nm.size ≤ maxLen ∧ t.1.size ≤ maxLen
theorem RowS.gr {B : Nat} {w w' : World} {l : List Bd} {p : Option Addr} (h : RowS B w l p) (g : Gr w w') (hB : B ≤ w.heap.size) : RowS B w' l p := fun k hk => by
  obtain ⟨t, b, o, q, d, h1, h2, h3, h4, h5, h6, h7, h8⟩ := h k hk
  exact ⟨t, b, o, q, d, h1, h2, h3, (g.cell (Nat.lt_of_lt_of_le h3 hB)).trans h4, (g.cell (Nat.lt_of_lt_of_le h3 hB)).trans h5, (g.cell (Nat.lt_of_lt_of_le h3 hB)).trans h6, h7.gr g hB, h8⟩
theorem RowS.deep {B B' : Nat} {w w' : World} {l : List Bd} {p : Option Addr} (h : RowS B w l p) (g : Below B' w w') (hB : B ≤ B') : RowS B w' l p := fun k hk => by
  obtain ⟨t, b, o, q, d, h1, h2, h3, h4, h5, h6, h7, h8⟩ := h k hk
  have hb : b < B' := Nat.lt_of_lt_of_le h3 hB
  exact ⟨t, b, o, q, d, h1, h2, h3, (g.cell (p := ⟨b, _, none⟩) hb).trans h4, (g.cell (p := ⟨b, _, none⟩) hb).trans h5, (g.cell (p := ⟨b, _, none⟩) hb).trans h6, h7.deep g hB, h8⟩
end UniK
end Go.Proofs.YtgbbpliihglijaaGreat
/- gameplayerplain's reader in memory: blank, sign. Condition: a text of at most a million bytes. -/
namespace Go.Proofs.YtgbbpliihglijaaGreat
open Go Go.RowKit
namespace RdA
open Kit LexM TermM TermI TermU UniK RdM
/-- The reader at block r has this left of the text. -/
def Rd (w : World) (r : Nat) (s : ByteArray) (l : List UInt8) : Prop :=
  s.size ≤ 1000000 ∧ ∃ k : Nat, k + l.length = s.size ∧ s.data.toList.drop k = l ∧ Has w r #[.string s, .int .i64 k]
theorem Rd.below {w w' : World} {r : Nat} {s : ByteArray} {l : List UInt8} (h : Rd w r s l) (k : Below w.heap.size w w') : Rd w' r s l := by
  obtain ⟨h0, n, h1, h2, h3⟩ := h
  exact ⟨h0, n, h1, h2, h3.step0 k⟩
theorem Rd.lt {w : World} {r : Nat} {s : ByteArray} {l : List UInt8} (h : Rd w r s l) : r < w.heap.size := by
  obtain ⟨_, _, _, _, h⟩ := h; exact h.lt
theorem byte_at {s : ByteArray} {l : List UInt8} {k : Nat} {c : UInt8} (hk : k + (c :: l).length = s.size) (hd : s.data.toList.drop k = c :: l) : ∃ h : k < s.size, s[k] = c := by
  simp at hk
  have hlt : k < s.size := by omega
  refine ⟨hlt, ?_⟩
  have h2 : s.data.toList[k]? = some c := by
    have := congrArg (fun x => x[0]?) hd
    simpa using this
  have h3 : s.data.toList[k]? = some s[k] := by
    rw [List.getElem?_eq_getElem (by simpa using hlt)]
    rfl
  rw [h3] at h2
  exact Option.some.inj h2
theorem drop_step {s : ByteArray} {l : List UInt8} {k : Nat} {c : UInt8} (hk : k + (c :: l).length = s.size) (hd : s.data.toList.drop k = c :: l) : (k + 1) + l.length = s.size ∧ s.data.toList.drop (k + 1) = l := by
  refine ⟨by simp at hk; omega, ?_⟩
  have := congrArg (List.drop 1) hd
  rw [List.drop_drop] at this
  simpa using this
/-- A byte is passed. -/
theorem Rd.pass {w : World} {r : Nat} {s : ByteArray} {l : List UInt8} {c : UInt8} {k : Nat} (h0 : s.size ≤ 1000000) (hk : k + (c :: l).length = s.size) (hd : s.data.toList.drop k = c :: l) (h : Has w r #[.string s, .int .i64 k]) : Rd (w.setCell ⟨r, 1, none⟩ (.int .i64 ((k : Int) + 1))) r s l := by
  obtain ⟨h1, h2⟩ := drop_step hk hd
  exact ⟨h0, k + 1, h1, h2, h.set 1 (.int .i64 ((k : Int) + 1))⟩
theorem bl_int (c : UInt8) : bl c = ((c.toNat : Int) == 32 || (c.toNat : Int) == 10) := by
  unfold bl
  have e1 : (c == 32) = ((c.toNat : Int) == 32) := by rw [Bool.eq_iff_iff]; simp [← UInt8.toNat_inj]; omega
  have e2 : (c == 10) = ((c.toNat : Int) == 10) := by rw [Bool.eq_iff_iff]; simp [← UInt8.toNat_inj]; omega
  rw [e1, e2]
/-- What blank leaves. -/
def BlQ (r : Nat) (s : ByteArray) (l : List UInt8) (w : World) (e : Ending) (w' : World) : Prop := e = .returned (.tuple #[]) ∧ Rd w' r s l ∧ Ch r w w'
def LB (r : Nat) (s : ByteArray) (T : List UInt8) (w : World) (gk : Nat) (wr : World) : Prop := ∃ m : List UInt8, m.length = gk ∧ blankL m = T ∧ Rd wr r s m ∧ Ch r w wr
theorem blank_stop {c : UInt8} {m : List UInt8} (h : bl c = false) : blankL (c :: m) = c :: m := by simp [blankL, h]
theorem blank_go {c : UInt8} {m : List UInt8} (h : bl c = true) : blankL (c :: m) = blankL m := by simp [blankL, h]
set_option maxRecDepth 100000 in
set_option maxHeartbeats 3200000 in
theorem blank_any (s : ByteArray) (l : List UInt8) (w : World) (r : Nat) (h : Rd w r s l) :
    Calls Tryz.prog 52 #[.pointer (some ⟨r, 0, none⟩)] w (BlQ r s (blankL l) w) := by
  have hs0 := h.1
  have L0 : Hid (LB r s (blankL l) w l.length w) := Lib.hid ⟨l, rfl, rfl, h, Ch.refl _ _⟩
  generalize blankL l = T at *
  generalize l.length = n0 at *
  clear h l
  unfold BlQ
  go_enter Tryz.func52, Tryz.ntmps52
  go_wp2_with fail
  go_loopg [] n0 (fun gk wr => Hid (LB r s T w gk wr))
  case atStart => exact L0
  case round =>
    clear L0
    obtain ⟨m, hm, hT, hR, hC⟩ := hrel.out
    obtain ⟨_, k, hk, hd, hH⟩ := hR
    obtain ⟨y1, y2, f1, f2, hlt⟩ := hH.two
    have HM := Lib.hid hm
    have HT := Lib.hid hT
    have HC := Lib.hid hC
    have HH := Lib.hid hH
    clear hm hT hC hH hrel
    cases m with
    | nil =>
      have hkn : k = s.size := by simpa using hk
      have c1 : decide (k < s.size) = false := by rw [hkn]; simp
      have HK := Lib.hid hk
      have HD := Lib.hid hd
      clear hk hd hkn
      go_wp2_with fail
      go_quiet (fail)
      all_goals
        go_wp2_with fail
        go_end0
        refine ⟨rfl, ?_, ?_⟩
        · rw [← HT.out]
          exact ⟨hs0, k, HK.out, HD.out, HH.out.step0 (below_drewN (Below.refl _ _) _)⟩
        · exact HC.out.below (below_drewN (Below.refl _ _) _)
    | cons c m =>
      obtain ⟨hks, hb⟩ := byte_at hk hd
      have c1 : decide (k < s.size) = true := by simpa using hks
      have i1 : (0 : Int) ≤ (k : Int) := by omega
      have i2 : (k : Int) < (s.size : Int) := by omega
      have i3 : (k : Int) ≤ 1000000 := by omega
      have HB : Hid (bl c = ((s[k].toNat : Int) == 32 || (s[k].toNat : Int) == 10)) := Lib.hid (by rw [hb]; exact bl_int c)
      have HK := Lib.hid hk
      have HD := Lib.hid hd
      clear hk hd hb
      obtain ⟨z1, hz1⟩ : ∃ z, ((s[k].toNat : Int) == 32) = z := ⟨_, rfl⟩
      obtain ⟨z2, hz2⟩ : ∃ z, ((s[k].toNat : Int) == 10) = z := ⟨_, rfl⟩
      rw [hz1, hz2] at HB
      cases z1 <;> cases z2
      · have HB2 : Hid (bl c = false) := Lib.hid HB.out
        go_wp2_with fail
        go_quiet (fail)
        all_goals
          go_wp2_with fail
          go_end0
          refine ⟨rfl, ?_, ?_⟩
          · rw [← HT.out, blank_stop HB2.out]
            exact ⟨hs0, k, HK.out, HD.out, HH.out.step0 (below_drewN (Below.refl _ _) _)⟩
          · exact HC.out.below (below_drewN (Below.refl _ _) _)
      all_goals
        have HB2 : Hid (bl c = true) := Lib.hid HB.out
        go_wp2_with fail
        go_quiet (fail)
        all_goals
          have H5 := Lib.hid (HH.out.step0 (below_drewN (Below.refl _ _) nq))
          have C5 := Lib.hid (HC.out.below (below_drewN (Below.refl _ _) nq))
          go_wp2_with fail
          go_roundg (gk - 1)
          case rel => exact Lib.hid ⟨m, by have := HM.out; simp at this; omega, by rw [← HT.out, blank_go HB2.out], Rd.pass hs0 HK.out HD.out H5.out, C5.out.put (Or.inl rfl) _⟩
          case measure => have := HM.out; simp at this; omega
end RdA
end Go.Proofs.YtgbbpliihglijaaGreat
/- gameplayerplain's reader in memory: sign, word. Condition: a text of at most a million bytes. -/
namespace Go.Proofs.YtgbbpliihglijaaGreat
open Go Go.RowKit
namespace RdB
open Kit LexM TermM TermI TermU UniK RdM RdA
/-- What sign leaves. -/
def SgQ (r : Nat) (s : ByteArray) (o : Bool × List UInt8) (w : World) (e : Ending) (w' : World) : Prop := e = .returned (.bool o.1) ∧ Rd w' r s o.2 ∧ Ch r w w'
set_option maxRecDepth 100000 in
set_option maxHeartbeats 3200000 in
theorem sign_any (s : ByteArray) (l : List UInt8) (c : UInt8) (w : World) (r : Nat) (h : Rd w r s l) :
    Calls Tryz.prog 42 #[.pointer (some ⟨r, 0, none⟩), .int .u8 c.toNat] w (SgQ r s (signL c l) w) := by
  have hs0 := h.1
  have CB := Lib.hid (blank_any s l w r h)
  have HL : Hid (signL c l = match blankL l with | x :: q => if x = c then (true, q) else (false, x :: q) | [] => (false, [])) := Lib.hid rfl
  unfold BlQ at CB
  generalize blankL l = m at *
  clear h
  unfold SgQ
  go_enter Tryz.func42, Tryz.ntmps42
  go_wp2_with fail
  refine CB.out.mono ?_
  rintro e w2 ⟨rfl, hR, hC⟩
  obtain ⟨_, k, hk, hd, hH⟩ := hR
  obtain ⟨y1, y2, f1, f2, hlt⟩ := hH.two
  have HC := Lib.hid hC
  have HH := Lib.hid hH
  clear hC hH CB
  cases m with
  | nil =>
    have HO : Hid (signL c l = (false, [])) := Lib.hid HL.out
    have hkn : k = s.size := by simpa using hk
    have c1 : decide (k < s.size) = false := by rw [hkn]; simp
    have HK := Lib.hid hk
    have HD := Lib.hid hd
    clear hk hd hkn HL
    go_wp2_with fail
    go_quiet (fail)
    all_goals
      go_wp2_with fail
      go_ret
      refine ⟨by rw [HO.out]; rfl, ?_, HC.out.below (below_drewN (Below.refl _ _) _)⟩
      rw [HO.out]
      exact ⟨hs0, k, HK.out, HD.out, HH.out.step0 (below_drewN (Below.refl _ _) _)⟩
  | cons x q =>
    obtain ⟨hks, hb⟩ := byte_at hk hd
    have c1 : decide (k < s.size) = true := by simpa using hks
    have i1 : (0 : Int) ≤ (k : Int) := by omega
    have i2 : (k : Int) < (s.size : Int) := by omega
    have i3 : (k : Int) ≤ 1000000 := by omega
    have HB : Hid ((x = c) ↔ ((s[k].toNat : Int) == (c.toNat : Int)) = true) := Lib.hid (by rw [hb, beq_iff_eq, ← UInt8.toNat_inj]; omega)
    have HK := Lib.hid hk
    have HD := Lib.hid hd
    clear hk hd hb
    obtain ⟨z1, hz1⟩ : ∃ z, ((s[k].toNat : Int) == (c.toNat : Int)) = z := ⟨_, rfl⟩
    rw [hz1] at HB
    cases z1
    · have HO : Hid (signL c l = (false, x :: q)) := Lib.hid (by rw [HL.out]; exact if_neg fun e => Bool.noConfusion (HB.out.1 e))
      clear HL HB
      go_wp2_with fail
      go_quiet (fail)
      all_goals
        go_wp2_with fail
        go_ret
        refine ⟨by rw [HO.out]; rfl, ?_, HC.out.below (below_drewN (Below.refl _ _) _)⟩
        rw [HO.out]
        exact ⟨hs0, k, HK.out, HD.out, HH.out.step0 (below_drewN (Below.refl _ _) _)⟩
    · have HO : Hid (signL c l = (true, q)) := Lib.hid (by rw [HL.out]; exact if_pos (HB.out.2 rfl))
      clear HL HB
      go_wp2_with fail
      go_quiet (fail)
      all_goals
        have H5 := Lib.hid (HH.out.step0 (below_drewN (Below.refl _ _) nq))
        have C5 := Lib.hid (HC.out.below (below_drewN (Below.refl _ _) nq))
        go_wp2_with fail
        go_ret
        refine ⟨by rw [HO.out]; rfl, ?_, C5.out.put (Or.inl rfl) _⟩
        rw [HO.out]
        exact Rd.pass hs0 HK.out HD.out H5.out
end RdB
end Go.Proofs.YtgbbpliihglijaaGreat
/- gameplayerplain's reader as plain functions: equations without fuel. No conditions. -/
namespace Go.Proofs.YtgbbpliihglijaaGreat
open Go
namespace RdN
open LexM TermM RdM
def args (l : List UInt8) : List Tm × List UInt8 := argsL (2 * l.length + 2) l
theorem args_any (l : List UInt8) {f : Nat} (h : 2 * l.length + 2 ≤ f) : argsL f l = args l := (fuel _).2 l f (Nat.le_refl _) h
theorem term_no {n l : List UInt8} (h : (signL 40 l).1 = false) : term n l = (.mk (bs n) [], (signL 40 l).2) := by
  unfold term
  rw [termL, if_neg (by rw [h]; decide)]
theorem term_yes {n l : List UInt8} (h : (signL 40 l).1 = true) : term n l = (.mk (bs n) (args (signL 40 l).2).1, (signL 41 (args (signL 40 l).2).2).2) := by
  have := sign_yes h
  unfold term
  rw [termL, if_pos h, args_any _ (by omega)]
theorem args_nil : args [] = ([], []) := by simp [args, argsL]
theorem args_more {l : List UInt8} (hl : l ≠ []) (h : (signL 44 (term (wordL l).1 (wordL l).2).2).1 = true) :
    args l = ((term (wordL l).1 (wordL l).2).1 :: (args (signL 44 (term (wordL l).1 (wordL l).2).2).2).1, (args (signL 44 (term (wordL l).1 (wordL l).2).2).2).2) := by
  have a := word_len l
  have b := term_le (wordL l).1 (wordL l).2
  have c := sign_yes h
  have e : termL (2 * l.length + 1) (wordL l).1 (wordL l).2 = term (wordL l).1 (wordL l).2 := term_any _ _ (by omega)
  have hi : l.isEmpty = false := by cases l <;> simp_all
  show argsL (2 * l.length + 1 + 1) l = _
  rw [argsL, if_neg (by rw [hi]; decide), e, if_pos h, args_any _ (by omega)]
theorem args_last {l : List UInt8} (hl : l ≠ []) (h : (signL 44 (term (wordL l).1 (wordL l).2).2).1 = false) :
    args l = ([(term (wordL l).1 (wordL l).2).1], (signL 44 (term (wordL l).1 (wordL l).2).2).2) := by
  have a := word_len l
  have e : termL (2 * l.length + 1) (wordL l).1 (wordL l).2 = term (wordL l).1 (wordL l).2 := term_any _ _ (by omega)
  have hi : l.isEmpty = false := by cases l <;> simp_all
  show argsL (2 * l.length + 1 + 1) l = _
  rw [argsL, if_neg (by rw [hi]; decide), e, if_neg (by rw [h]; decide)]
theorem args_le (l : List UInt8) : (args l).2.length ≤ l.length := (term_len _).2 l
theorem args_cnt (f : Nat) : (∀ l, (argsL f l).1.length ≤ l.length + 1) := by
  induction f with
  | zero => intro l; simp [argsL]
  | succ f ih =>
    intro l
    rw [argsL]
    split
    · simp
    · have a := word_len l
      have b := (term_len f).1 (wordL l).1 (wordL l).2
      split
      · rename_i hs
        have := sign_yes hs
        have := ih (signL 44 (termL f (wordL l).1 (wordL l).2).2).2
        simp only [List.length_cons]
        omega
      · simp
theorem bs_size (l : List UInt8) : (bs l).size = l.length := by simp [bs, ByteArray.size]
/-! ### Bodies -/
def body (l : List UInt8) : List (Bool × Tm) × List UInt8 := bodyL (l.length + 1) l
/-- The word behind 'if' or 'and'. -/
def wd1 (l : List UInt8) : List UInt8 × List UInt8 := wordL (wordL (signL 46 l).2).2
def isNot (l : List UInt8) : Bool := (wd1 l).1 == [110, 111, 116]
/-- The word with which the atom begins. -/
def wd2 (l : List UInt8) : List UInt8 × List UInt8 := if isNot l then wordL (wd1 l).2 else wd1 l
theorem bodyL_step (f : Nat) (l : List UInt8) : bodyL (f + 1) l = if l.isEmpty then ([], l) else if (signL 46 l).1 then ([], (signL 46 l).2) else if (wd2 l).1.isEmpty then ([], (wd2 l).2) else ((isNot l, (term (wd2 l).1 (wd2 l).2).1) :: (bodyL f (term (wd2 l).1 (wd2 l).2).2).1, (bodyL f (term (wd2 l).1 (wd2 l).2).2).2) := by
  rw [bodyL]
  rfl
theorem wd2_len (l : List UInt8) : (wd2 l).1.length + (wd2 l).2.length ≤ l.length := by
  have a := sign_le 46 l
  have b := word_len (signL 46 l).2
  have c := word_len (wordL (signL 46 l).2).2
  have d := word_len (wd1 l).2
  unfold wd2
  unfold wd1 at *
  split <;> omega
theorem body_fuel : ∀ (f g : Nat) (l : List UInt8), l.length + 1 ≤ f → f ≤ g → bodyL g l = bodyL f l
  | 0, _, _, h, _ => by omega
  | f + 1, g, l, h, hg => by
    obtain ⟨g, rfl⟩ : ∃ k, g = k + 1 := ⟨g - 1, by omega⟩
    rw [bodyL_step, bodyL_step]
    split
    · rfl
    · split
      · rfl
      · split
        · rfl
        · rename_i h1 h2 h3
          have a := wd2_len l
          have b := term_le (wd2 l).1 (wd2 l).2
          have c : 0 < (wd2 l).1.length := by
            cases hw : (wd2 l).1 with
            | nil => rw [hw] at h3; simp at h3
            | cons x y => simp
          rw [body_fuel f g _ (by omega) (by omega)]
theorem body_nil : body [] = ([], []) := by simp [body, bodyL]
theorem body_dot {l : List UInt8} (hl : l ≠ []) (h : (signL 46 l).1 = true) : body l = ([], (signL 46 l).2) := by
  have hi : l.isEmpty = false := by cases l <;> simp_all
  unfold body
  rw [bodyL_step, if_neg (by rw [hi]; decide), if_pos h]
theorem body_stop {l : List UInt8} (hl : l ≠ []) (h : (signL 46 l).1 = false) (hw : (wd2 l).1 = []) : body l = ([], (wd2 l).2) := by
  have hi : l.isEmpty = false := by cases l <;> simp_all
  unfold body
  rw [bodyL_step, if_neg (by rw [hi]; decide), if_neg (by rw [h]; decide), if_pos (by rw [hw]; rfl)]
theorem body_more {l : List UInt8} (hl : l ≠ []) (h : (signL 46 l).1 = false) (hw : (wd2 l).1 ≠ []) : body l = ((isNot l, (term (wd2 l).1 (wd2 l).2).1) :: (body (term (wd2 l).1 (wd2 l).2).2).1, (body (term (wd2 l).1 (wd2 l).2).2).2) := by
  have hi : l.isEmpty = false := by cases l <;> simp_all
  have a := wd2_len l
  have b := term_le (wd2 l).1 (wd2 l).2
  have c : 0 < (wd2 l).1.length := List.length_pos_iff.2 hw
  have hw2 : (wd2 l).1.isEmpty = false := by cases h : (wd2 l).1 <;> simp_all
  unfold body
  rw [bodyL_step, if_neg (by rw [hi]; decide), if_neg (by rw [h]; decide), if_neg (by rw [hw2]; decide), body_fuel _ l.length (term (wd2 l).1 (wd2 l).2).2 (Nat.le_refl _) (by omega)]
theorem rule_eq (n l : List UInt8) : rule n l = (((term n l).1, (body (term n l).2).1), (body (term n l).2).2) := rfl
theorem body_le : ∀ (f : Nat) (l : List UInt8), (bodyL f l).1.length ≤ l.length + 1 ∧ (bodyL f l).2.length ≤ l.length
  | 0, l => by simp [bodyL]
  | f + 1, l => by
    rw [bodyL_step]
    have a := wd2_len l
    have b := term_le (wd2 l).1 (wd2 l).2
    have s := sign_le 46 l
    split
    · simp
    · split
      · simp; omega
      · split
        · simp; omega
        · rename_i h1 h2 h3
          have c : 0 < (wd2 l).1.length := by
            cases hw : (wd2 l).1 with
            | nil => rw [hw] at h3; simp at h3
            | cons x y => simp
          obtain ⟨d, e⟩ := body_le f (term (wd2 l).1 (wd2 l).2).2
          simp only [List.length_cons]
          omega
end RdN
end Go.Proofs.YtgbbpliihglijaaGreat
/- The code's replace at leaf: clone. Condition: at most a million parts. Made by genunid.py. -/
namespace Go.Proofs.YtgbbpliihglijaaGreat
open Go Go.RowKit
namespace UniD
open LexM TermM TermI Kit TermN TermU UniK UniM
theorem hmf0 : ∀ (fn : Fn) (first cap : Array Value) (w : World), (Instr.makeFunc fn first cap).run Tryz.prog w = .ok (.func fn first cap) w := fun _ _ _ _ => rfl
mutual
/-- Each leaf is replaced by what a function says for its name. -/
def repT (φ : ByteArray → Tm) : Tm → Tm
  | .mk n l => if l.isEmpty then φ n else .mk n (repL φ l)
def repL (φ : ByteArray → Tm) : List Tm → List Tm
  | [] => []
  | t :: l => repT φ t :: repL φ l
end
theorem repL_map (φ : ByteArray → Tm) : ∀ l, repL φ l = l.map (repT φ)
  | [] => rfl
  | t :: l => by simp [repL, repL_map φ l]
/-- A term comes back, its lists all in new blocks. -/
def RepR (t : Tm) (w : World) (e : Ending) (w' : World) : Prop :=
  ∃ (p : Option Addr) (c : Nat), e = .returned (.agg #[.string t.nm, .slice p t.args.length c]) ∧ SlIn (fun b => w.heap.size ≤ b ∧ b < w'.heap.size) w' t.args (.slice p t.args.length c) ∧ t.nm.size ≤ maxLen ∧ Below w.heap.size w w'
theorem Has.grown {w w' : World} {g : Nat} {cs : Array Value} {row : Option Nat} (h : Has w g cs) (hg : w.grownBy w' row) (hne : row ≠ some g) : Has w' g cs := by
  have hl := h.lt
  obtain ⟨t, h⟩ := h
  exact ⟨t, (hg.block g hl (fun e => hne e.symm)).trans h⟩
theorem cell_far {w : World} {b o : Nat} {p : Addr} {u : Value} (h : b ≠ p.block) : (w.setCell p u).cell? ⟨b, o, none⟩ = w.cell? ⟨b, o, none⟩ :=
  World.cell?_of_block (w := w) (a := ⟨b, o, none⟩) (Below.heap_setCell _ _ _ _ h)
/-- So many zero terms. -/
def restL : Nat → List Value
  | 0 => []
  | j + 1 => .string ⟨#[]⟩ :: .slice none 0 0 :: restL j
theorem rest_len : ∀ j, (restL j).length = j * 2
  | 0 => rfl
  | j + 1 => by simp [restL, rest_len j]; omega
theorem rest_get : ∀ (j i : Nat), i < j * 2 → (restL j)[i]? = some (if i % 2 = 0 then Value.string ⟨#[]⟩ else .slice none 0 0)
  | 0, i, h => by omega
  | j + 1, 0, _ => rfl
  | j + 1, 1, _ => rfl
  | j + 1, i + 2, h => by
    rw [restL, List.getElem?_cons_succ, List.getElem?_cons_succ, rest_get j i (by omega), show (i + 2) % 2 = i % 2 by omega]
theorem made_rest (n : Nat) : (madeCells (Value.agg #[.string ⟨#[]⟩, .slice none 0 0]).cells (n * 2)).toList = flatL [] ++ restL n := by
  rw [show (flatL [] : List Value) = [] from rfl, List.nil_append]
  apply List.ext_getElem?
  intro i
  have hs : (Value.agg #[Value.string ⟨#[]⟩, .slice none 0 0]).cells = #[.string ⟨#[]⟩, .slice none 0 0] := rfl
  rw [hs]
  by_cases hi : i < n * 2
  · rw [rest_get n i hi]
    unfold madeCells
    rw [Array.getElem?_toList, Array.getElem?_map, Array.getElem?_range]
    rw [if_pos hi]
    rcases Nat.mod_two_eq_zero_or_one i with h | h
    · simp [h]
    · simp [h]
  · have h1 : (restL n)[i]? = none := List.getElem?_eq_none (by rw [rest_len]; omega)
    rw [h1]
    exact List.getElem?_eq_none (by rw [Array.length_toList, size_madeCells]; omega)
theorem rest_at (L : List (Tm × Value)) (j : Nat) (hj : 0 < j) : (flatL L ++ restL j)[L.length * 2]? = some (.string ⟨#[]⟩) ∧ (flatL L ++ restL j)[L.length * 2 + 1]? = some (.slice none 0 0) := by
  obtain ⟨i, rfl⟩ : ∃ i, j = i + 1 := ⟨j - 1, by omega⟩
  have hl := flatL_len L
  constructor
  · rw [List.getElem?_append_right (by omega), show L.length * 2 - (flatL L).length = 0 by omega]; rfl
  · rw [List.getElem?_append_right (by omega), show L.length * 2 + 1 - (flatL L).length = 1 by omega]; rfl
theorem rest_set (L : List (Tm × Value)) (u : Tm) (v : Value) (j : Nat) (hj : 0 < j) : ((flatL L ++ restL j).set (L.length * 2) (.string u.nm)).set (L.length * 2 + 1) v = flatL (L ++ [(u, v)]) ++ restL (j - 1) := by
  obtain ⟨i, rfl⟩ : ∃ i, j = i + 1 := ⟨j - 1, by omega⟩
  have hl := flatL_len L
  rw [flatL_snoc, List.set_append_right _ _ (by omega), List.set_append_right _ _ (by omega), show L.length * 2 - (flatL L).length = 0 by omega, show L.length * 2 + 1 - (flatL L).length = 1 by omega, Nat.add_sub_cancel]
  simp [restL]
theorem own_bel {w w' : World} {base B : Nat} {e : TypeId} {size n : Nat} {v : Value} {xs : List Value} (h : w.ownsRow base e size v n xs) (hb : Below B w w') (hB : ∀ g, v.ownBlock = some g → g < B) : w'.ownsRow base e size v n xs := by
  refine ⟨h.1, ?_⟩
  rcases h.2 with h | ⟨g, cap, cur, e1, e2, e3, e4⟩
  · exact Or.inl h
  · exact Or.inr ⟨g, cap, cur, e1, e2, (hb.block g (hB g (by rw [e1]; rfl))).trans e3, e4⟩
theorem size_mem {l : List Tm} {t : Tm} (h : t ∈ l) : sizeT t ≤ sizeL l := by
  obtain ⟨k, hk⟩ := List.mem_iff_getElem?.1 h
  exact size_get hk
theorem slin_own {w : World} {base g n : Nat} {L : List (Tm × Value)} (hl : L.length = n) (h : w.ownsRow base 58 2 (.slice (some ⟨g, 0, none⟩) n n) n (flatL L)) (hI : ∀ x ∈ L, SlIn (fun b => g < b ∧ b < w.heap.size) w x.1.args x.2 ∧ x.1.nm.size ≤ maxLen) (hg : g < w.heap.size) :
    SlIn (fun b => g ≤ b ∧ b < w.heap.size) w (L.map (·.1)) (.slice (some ⟨g, 0, none⟩) n n) := by
  have hm : n ≤ maxLen := by
    rcases h.2 with ⟨e, _⟩ | ⟨g', cap, cur, e, _, _, hc, hcm, _⟩
    · cases e
    · injection e with _ _ e; omega
  have hlen : (L.map (·.1)).length = n := by simpa using hl
  subst hl
  rw [show L.length = (L.map (·.1)).length by simp]
  have key : ∀ (i : Nat) (t : Tm), (L.map (·.1))[i]? = some t → ∃ x : Tm × Value, L[i]? = some x ∧ x.1 = t := by
    intro i t ht
    rw [List.getElem?_map] at ht
    obtain ⟨x, a, b⟩ := Option.map_eq_some_iff.1 ht
    exact ⟨x, a, b⟩
  refine .mk _ _ _ (fun i => (L.getD i (default, undef)).2) g 0 (fun _ => ⟨rfl, Nat.le_refl _, hg⟩) (fun h => by cases h) (Nat.le_refl _) (by simpa using hm) (fun i t ht => ?_) (fun i t ht => ?_)
  · obtain ⟨x, hx, rfl⟩ := key i t ht
    have hi := (List.getElem?_eq_some_iff.1 hx).1
    obtain ⟨f1, f2⟩ := flatL_get L i x hx
    refine ⟨by rw [Nat.zero_add]; exact (h.cellAt (i * 2) (by omega)).trans f1, ?_, (hI x (List.mem_of_getElem? hx)).2⟩
    rw [Nat.zero_add]
    refine ((h.cellAt (i * 2 + 1) (by omega)).trans f2).trans ?_
    simp [List.getD, hx]
  · obtain ⟨x, hx, rfl⟩ := key i t ht
    have := (hI x (List.mem_of_getElem? hx)).1.weaken (ok' := fun b => g ≤ b ∧ b < w.heap.size) (fun b hb => ⟨by omega, hb.2⟩)
    simpa [List.getD, hx] using this
theorem rep_leaf (t : Tm) : repT (fun n => .mk n []) t = t := by
  induction t using Tm.ind with
  | h n l ih =>
    rw [repT]
    split
    · rename_i h; cases l <;> simp_all
    · rw [repL_map]
      congr 1
      conv => rhs; rw [← List.map_id l]
      exact List.map_congr_left ih
end UniD
end Go.Proofs.YtgbbpliihglijaaGreat
