/- The reference's reader: what stands behind one more literal of a rule. No conditions. -/
import Derived.Test.YtdalepdpobcpaaaDoorRefF
namespace Go.Proofs.YtdalepdpobcpaaaDoor
open Go Go.RowKit
namespace RefJ0
open Kit LexM TermM TermI TermU LexE LexF LexG LexP LexQ ParM ParA ParB ParC ParD ParK ParE ParG ParV ParN RefA RefB RefC0 RefC RefD RefF
/-- A literal at a place where too many are an error. -/
def litT (n : Nat) (ts : List GTok) : Out Lt := if (decide (n = 8) && (isB (hd ts) sNot || atomB (hd ts))) = true then .bad (hd ts).2.2 2 else litF ts
def goL (l : List Lt) (ts : List GTok) : Out (List Lt) := (litT l.length ts).then fun x r => litsF (8 - l.length) (l ++ [x]) r
theorem body_go (ts : List GTok) : bodyF ts = goL [] ts := by
  unfold bodyF goL litT
  rw [if_neg (by simp)]
  rfl
theorem lits_go (l : List Lt) (ts : List GTok) (hl : 1 ≤ l.length) (h8 : l.length ≤ 8) : litsF (9 - l.length) l ts = if isB (hd ts) sAnd = true then goL l ts.tail else .good l ts := by
  obtain ⟨m, hm⟩ : ∃ m, 9 - l.length = m + 1 := ⟨8 - l.length, by omega⟩
  rw [hm, litsF]
  unfold goL litT
  rw [show 8 - l.length = m by omega, Bool.or_comm (isB (hd ts.tail) sNot)]
  split
  · split <;> rfl
  · rfl
def fin (h : Tm) (b : List Lt) (r2 : List GTok) : Out Rl := (expF sDot r2).then fun _ r3 => .good ((h, b) : Rl) r3
theorem rule_fin (ts : List GTok) : ruleF ts = (atomF ts).then fun h r => if isB (hd r) sIf = true then (bodyF r.tail).then (fin h) else fin h [] r := rfl
/-- The head's arguments lie in blocks before X. -/
def HDk (w : World) (X : Nat) (nm : ByteArray) (hp : Option Addr) (hn hc : Nat) (h : Tm) (wr : World) : Prop :=
  nm = h.nm ∧ hn = h.args.length ∧ SlIn (fun b => w.heap.size + 1 ≤ b ∧ b < X) wr h.args (.slice hp hn hc) ∧ h.nm.size ≤ maxLen
theorem HDk.frame {w wr w' : World} {X : Nat} {nm : ByteArray} {hp : Option Addr} {hn hc : Nat} {h : Tm} (k : HDk w X nm hp hn hc h wr) (hf : ∀ b o, w.heap.size + 1 ≤ b → b < X → w'.cell? ⟨b, o, none⟩ = wr.cell? ⟨b, o, none⟩) : HDk w X nm hp hn hc h w' :=
  ⟨k.1, k.2.1, k.2.2.1.frame fun b o hb => hf b o hb.1 hb.2, k.2.2.2⟩
theorem HDk.ch {w wr w' : World} {X r : Nat} {nm : ByteArray} {hp : Option Addr} {hn hc : Nat} {h : Tm} (k : HDk w X nm hp hn hc h wr) (g : Ch r wr w') (hr : r < w.heap.size) (hX : X ≤ wr.heap.size) : HDk w X nm hp hn hc h w' :=
  k.frame fun b o h1 h2 => g.cell (by omega) (by omega)
/-- What a call that reads a literal answers, good or bad. -/
def FctL (r : Nat) (w w2 : World) (o : Out Lt) (b : Bool) (nm : ByteArray) (p : Option Addr) (m c : Nat) : Prop :=
  (∃ x ts, o = .good x ts ∧ b = x.1 ∧ nm = x.2.nm ∧ m = x.2.args.length ∧ SlIn (fun b => w.heap.size ≤ b ∧ b < w2.heap.size) w2 x.2.args (.slice p m c) ∧ x.2.nm.size ≤ maxLen ∧ RR w2 r ts 0 0) ∨
  (∃ a er ts, o = .bad a er ∧ er ≠ 0 ∧ RR w2 r ts a er)
def UL (r : Nat) (w : World) (o : Out Lt) (e : Ending) (w2 : World) : Prop := ∃ b nm p m c, e = .returned (.agg #[.bool b, .string nm, .slice p m c]) ∧ Ch r w w2 ∧ FctL r w w2 o b nm p m c
theorem ul_ok {r : Nat} {w : World} {ts : List GTok} (h : RR w r ts 0 0) : Calls Tryd.prog 51 #[.pointer (some ⟨r, 0, none⟩)] w (UL r w (litF ts)) :=
  (literal_ok r w ts h).mono fun e w2 h => by
    rcases h with ⟨x, ts, p, c, h1, h2, h3, h4, h5, h6⟩ | ⟨a, er, b, nm, p, m, c, ts, h1, h2, h3, h4, h5⟩
    · exact ⟨_, _, _, _, _, h2, h6, Or.inl ⟨x, ts, h1, rfl, rfl, rfl, h3, h4, h5⟩⟩
    · exact ⟨_, _, _, _, _, h2, h5, Or.inr ⟨a, er, ts, h1, h4, h3⟩⟩
theorem ul_err {r : Nat} {w : World} {ts : List GTok} {a er : Int} (h : RR w r ts a er) (her : er ≠ 0) : Calls Tryd.prog 51 #[.pointer (some ⟨r, 0, none⟩)] w (UL r w (.bad a er)) :=
  (literal_err r w ts a er her h).mono fun _ _ ⟨h1, h2⟩ => ⟨_, _, _, _, _, h1, Ch.of h2, Or.inr ⟨a, er, ts, rfl, her, h.below h2⟩⟩
abbrev Z3 : Array Value := #[.string ⟨#[]⟩, .slice none 0 0, .slice none 0 0]
def AftL (r : Nat) (w : World) (X : Nat) (nm : ByteArray) (hp : Option Addr) (hn hc : Nat) (h : Tm) (o : Out Lt) (M : List (Lt × Value)) (wx : World) : Prop :=
  Ch r w wx ∧ Has wx w.heap.size Z3 ∧ X < wx.heap.size ∧
  ((∃ x ts v u, o = .good x ts ∧ HDk w X nm hp hn hc h wx ∧ OwnG KL (X + 1) wx (M ++ [(x, u)]) v ∧ Has wx X #[.string nm, .slice hp hn hc, v] ∧ RR wx r ts 0 0) ∨
   (∃ a er p m c ts, o = .bad a er ∧ er ≠ 0 ∧ Has wx X #[.string nm, .slice hp hn hc, .slice p m c] ∧ RR wx r ts a er))
theorem aftL_of {r X : Nat} {w wr w2 w4 : World} {nm : ByteArray} {hp : Option Addr} {hn hc : Nat} {h : Tm} {o : Out Lt} {M : List (Lt × Value)} {v : Value} {lb : Bool} {ln : ByteArray} {p : Option Addr} {m c g cap : Nat} {ob : Obj}
    (hr : r < w.heap.size) (hX : w.heap.size < X) (hC0 : Ch r w wr) (hZ : Has wr w.heap.size Z3) (hD : HDk w X nm hp hn hc h wr) (hT : Has wr X #[.string nm, .slice hp hn hc, v]) (hO : OwnG KL (X + 1) wr M v)
    (hC : Ch r wr w2) (hF : FctL r wr w2 o lb ln p m c)
    (hown : w4.ownsRow (X + 1) 46 3 (.slice (some ⟨g, 0, none⟩) (M.length + 1) cap) (M.length + 1) (KL.flat M ++ [.bool lb, .string ln, .slice p m c])) (hgrow : (w2.alloc ob).grownBy w4 v.ownBlock) (hat : v.ownBlock = some g ∨ g = w2.heap.size + 1) :
    AftL r w X nm hp hn hc h o M (w4.setCell ⟨X, 2, none⟩ (.slice (some ⟨g, 0, none⟩) (M.length + 1) cap)) := by
  have hvb : ∀ k, v.ownBlock = some k → X + 1 ≤ k ∧ k < wr.heap.size := fun k hk => hO.1.lt k hk
  have hTl := hT.lt
  have fr : ∀ {gg : Nat} {cs : Array Value}, Has wr gg cs → gg ≠ r → gg < X + 1 → Has w4 gg cs := fun {gg cs} hh hne hlt => by
    refine RefC0.Has.grown ((hC.has hh hne).alloc ob) hgrow (fun e => ?_)
    have := (hvb gg e).1
    omega
  have hRR : ∀ {ts : List GTok} {a e : Int}, RR w2 r ts a e → RR (w4.setCell ⟨X, 2, none⟩ (.slice (some ⟨g, 0, none⟩) (M.length + 1) cap)) r ts a e := fun {ts a e} h =>
    RR.far (RR.grown (RR.alloc h ob) hgrow (fun k hk => by have := (hvb k hk).1; omega)) (by show r < X; omega) _
  have hT4 := (fr hT (by omega) (by omega)).set 2 (.slice (some ⟨g, 0, none⟩) (M.length + 1) cap)
  have hsz4 : w2.heap.size + 1 ≤ w4.heap.size := by have := hgrow.size; rw [World.size_alloc] at this; exact this
  have hD4 : HDk w X nm hp hn hc h (w4.setCell ⟨X, 2, none⟩ (.slice (some ⟨g, 0, none⟩) (M.length + 1) cap)) := by
    refine hD.frame fun b o' h1 h2 => ?_
    refine (cell_set (by show b ≠ X; omega) _).trans ?_
    have hlt2 : b < w2.heap.size := by have := hC.size; omega
    refine (World.cell?_of_block (w := w2.alloc ob) (a := ⟨b, o', none⟩) (hgrow.block b (by rw [World.size_alloc]; omega) (fun e => by have := (hvb b e.symm).1; omega))).trans ?_
    exact ((below_alloc w2 ob).cell (p := ⟨b, o', none⟩) hlt2).trans (hC.cell (by omega) (by omega))
  refine ⟨?_, ?_, by rw [set_size]; have := hC.size; omega, ?_⟩
  · exact (((hC0.trans hC).alloc ob).grown hgrow (fun k hk => by have := (hvb k hk).1; omega)).put (Or.inr (by show w.heap.size ≤ X; omega)) _
  · exact (fr hZ (by omega) (by omega)).far (by show w.heap.size ≠ X; omega) _
  · rcases hF with ⟨x, ts, h1, h2, h3, h4, h5, h6, h7⟩ | ⟨a, er, ts, h1, h2, h3⟩
    · subst h2 h3 h4
      refine Or.inl ⟨x, ts, _, .slice p x.2.args.length c, h1, hD4, ?_, hT4, hRR h7⟩
      have ha := OwnG.add (K := KL) (x := (x, Value.slice p x.2.args.length c)) (hO.ch hC (by omega)) (lo := wr.heap.size) ⟨h5, h6⟩ (by omega) (fun k hk => (hvb k hk).2) hown hgrow hat
      exact ha.ch ((Ch.refl X w4).put (p := ⟨X, 2, none⟩) (Or.inl rfl) _) (by omega)
    · exact Or.inr ⟨a, er, _, _, _, ts, h1, h2, hT4, hRR h3⟩
/-- What holds at the head of the loop over literals. -/
def LU (r : Nat) (w : World) (X : Nat) (nm : ByteArray) (hp : Option Addr) (hn hc : Nat) (h : Tm) (O : Out Rl) (gk : Nat) (b : Bool) (wr : World) : Prop :=
  Ch r w wr ∧ Has wr w.heap.size Z3 ∧ X < wr.heap.size ∧
  ((b = true ∧ ∃ M v ts, HDk w X nm hp hn hc h wr ∧ M.length + gk = 9 ∧ M.length ≤ 8 ∧ O = (goL (M.map (·.1)) ts.tail).then (fin h) ∧ (hd ts).2.1 ≠ ⟨#[]⟩ ∧ OwnG KL (X + 1) wr M v ∧ Has wr X #[.string nm, .slice hp hn hc, v] ∧ RR wr r ts 0 0) ∨
   (b = false ∧ ∃ M v ts, HDk w X nm hp hn hc h wr ∧ O = fin h (M.map (·.1)) ts ∧ OwnG KL (X + 1) wr M v ∧ Has wr X #[.string nm, .slice hp hn hc, v] ∧ RR wr r ts 0 0) ∨
   (b = false ∧ ∃ p m c ts a er, O = .bad a er ∧ er ≠ 0 ∧ Has wr X #[.string nm, .slice hp hn hc, .slice p m c] ∧ RR wr r ts a er))
/-- What a method that reads a rule leaves. -/
def RlO (r : Nat) (w : World) (o : Out Rl) (e : Ending) (w' : World) : Prop :=
  (∃ x ts p c q d, o = .good x ts ∧ e = .returned (.agg #[.string x.1.nm, .slice p x.1.args.length c, .slice q x.2.length d]) ∧ KR.inn (fun b => w.heap.size ≤ b ∧ b < w'.heap.size) w' (x, .slice p x.1.args.length c, .slice q x.2.length d) ∧ RR w' r ts 0 0 ∧ Ch r w w') ∨
  (∃ a er nm p m c q n d ts, o = .bad a er ∧ e = .returned (.agg #[.string nm, .slice p m c, .slice q n d]) ∧ RR w' r ts a er ∧ er ≠ 0 ∧ Ch r w w')
end RefJ0
end Go.Proofs.YtdalepdpobcpaaaDoor
