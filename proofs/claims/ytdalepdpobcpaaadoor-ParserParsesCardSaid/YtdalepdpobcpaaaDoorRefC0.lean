/- The reference's reader: what stands behind one more argument. No conditions. -/
import Derived.Test.YtdalepdpobcpaaaDoorRefB
import Derived.Test.YtdalepdpobcpaaaDoorParD
namespace Go.Proofs.YtdalepdpobcpaaaDoor
open Go Go.RowKit
namespace RefC0
open Kit LexM TermM TermI TermU LexE LexF LexG LexP LexQ ParM ParA ParB ParC ParD ParV RefA RefB
theorem RR.grown {w w' : World} {r : Nat} {ts : List GTok} {a e : Int} {row : Option Nat} (h : RR w r ts a e) (hg : w.grownBy w' row) (hr : ∀ k, row = some k → r < k) : RR w' r ts a e := by
  obtain ⟨h1, h2, g, o, c, n, i, h3, h4, h5, h6, h7, h8, h9⟩ := h
  have hl := h7.lt
  obtain ⟨t, h7⟩ := h7
  have hc : ∀ off, w'.cell? ⟨g, off, none⟩ = w.cell? ⟨g, off, none⟩ := fun off => World.cell?_of_block (w := w) (a := ⟨g, off, none⟩) (hg.block g h9.1 (fun e => by have := hr g e.symm; omega))
  exact ⟨h1, h2, g, o, c, n, i, h3, h4, h5, h6, ⟨t, (hg.block r hl (fun e => by have := hr r e.symm; omega)).trans h7⟩, h8, Nat.lt_of_lt_of_le h9.1 hg.size, fun j u hj => ⟨(hc _).trans (h9.2 j u hj).1, (hc _).trans (h9.2 j u hj).2.1, (hc _).trans (h9.2 j u hj).2.2⟩⟩
theorem RR.far {w : World} {r : Nat} {ts : List GTok} {a e : Int} (h : RR w r ts a e) {p : Addr} (hp : r < p.block) (u : Value) : RR (w.setCell p u) r ts a e := by
  obtain ⟨h1, h2, g, o, c, n, i, h3, h4, h5, h6, h7, h8, h9⟩ := h
  have hc : ∀ off, (w.setCell p u).cell? ⟨g, off, none⟩ = w.cell? ⟨g, off, none⟩ := fun off => World.cell?_of_block (w := w) (a := ⟨g, off, none⟩) (Below.heap_setCell _ _ _ _ (by show g ≠ p.block; omega))
  exact ⟨h1, h2, g, o, c, n, i, h3, h4, h5, h6, h7.far (by omega) u, h8, ⟨by simpa [World.setCell] using h9.1, fun j t hj => ⟨(hc _).trans (h9.2 j t hj).1, (hc _).trans (h9.2 j t hj).2.1, (hc _).trans (h9.2 j t hj).2.2⟩⟩⟩
theorem RR.alloc {w : World} {r : Nat} {ts : List GTok} {a e : Int} (h : RR w r ts a e) (o : Obj) : RR (w.alloc o) r ts a e := h.below (below_alloc w o)
theorem Has.grown {w w' : World} {g : Nat} {cs : Array Value} {row : Option Nat} (h : Has w g cs) (hg : w.grownBy w' row) (hr : row ≠ some g) : Has w' g cs := by
  have hl := h.lt
  obtain ⟨t, h⟩ := h
  exact ⟨t, (hg.block g hl (fun e => hr e.symm)).trans h⟩
/-- What a call that reads a term answers, good or bad. -/
def Fct (r : Nat) (w w2 : World) (o : Out Tm) (nm : ByteArray) (p : Option Addr) (m c : Nat) : Prop :=
  (∃ t ts, o = .good t ts ∧ nm = t.nm ∧ m = t.args.length ∧ SlIn (fun b => w.heap.size ≤ b ∧ b < w2.heap.size) w2 t.args (.slice p m c) ∧ t.nm.size ≤ maxLen ∧ RR w2 r ts 0 0) ∨
  (∃ a er ts, o = .bad a er ∧ er ≠ 0 ∧ RR w2 r ts a er)
theorem tmO_uni {r : Nat} {w w2 : World} {o : Out Tm} {e : Ending} (h : TmO r w o e w2) : ∃ nm p m c, e = .returned (.agg #[.string nm, .slice p m c]) ∧ Ch r w w2 ∧ Fct r w w2 o nm p m c := by
  rcases h with ⟨t, ts, p, c, h1, h2, h3, h4, h5, h6⟩ | ⟨a, er, nm, p, m, c, ts, h1, h2, h3, h4, h5⟩
  · exact ⟨_, _, _, _, h2, h6, Or.inl ⟨t, ts, h1, rfl, rfl, h3, h4, h5⟩⟩
  · exact ⟨_, _, _, _, h2, h5, Or.inr ⟨a, er, ts, h1, h4, h3⟩⟩
def Aft (r : Nat) (w : World) (tx : ByteArray) (o : Out Tm) (M : List (Tm × Value)) (wx : World) : Prop :=
  Ch r w wx ∧ Has wx w.heap.size #[.string ⟨#[]⟩, .slice none 0 0] ∧
  ((∃ t ts v u, o = .good t ts ∧ Own (w.heap.size + 2) wx (M ++ [(t, u)]) v ∧ Has wx (w.heap.size + 1) #[.string tx, v] ∧ RR wx r ts 0 0) ∨
   (∃ a er p m c ts, o = .bad a er ∧ er ≠ 0 ∧ Has wx (w.heap.size + 1) #[.string tx, .slice p m c] ∧ RR wx r ts a er))
theorem aft_of {r : Nat} {w wr w2 w4 : World} {tx : ByteArray} {o : Out Tm} {M : List (Tm × Value)} {v : Value} {nm : ByteArray} {p : Option Addr} {m c g cap : Nat} {ob : Obj}
    (hr : r < w.heap.size) (hC0 : Ch r w wr) (hZ : Has wr w.heap.size #[.string ⟨#[]⟩, .slice none 0 0]) (hT : Has wr (w.heap.size + 1) #[.string tx, v]) (hO : Own (w.heap.size + 2) wr M v)
    (hC : Ch r wr w2) (hF : Fct r wr w2 o nm p m c)
    (hown : w4.ownsRow (w.heap.size + 2) 31 2 (.slice (some ⟨g, 0, none⟩) (M.length + 1) cap) (M.length + 1) (flatL M ++ [.string nm, .slice p m c])) (hgrow : (w2.alloc ob).grownBy w4 v.ownBlock) (hat : v.ownBlock = some g ∨ g = w2.heap.size + 1) :
    Aft r w tx o M (w4.setCell ⟨w.heap.size + 1, 1, none⟩ (.slice (some ⟨g, 0, none⟩) (M.length + 1) cap)) := by
  have hvb : ∀ k, v.ownBlock = some k → w.heap.size + 2 ≤ k ∧ k < wr.heap.size := fun k hk => hO.1.lt k hk
  have hTl := hT.lt
  have fr : ∀ {gg : Nat} {cs : Array Value}, Has wr gg cs → gg ≠ r → gg < w.heap.size + 2 → Has w4 gg cs := fun {gg cs} hh hne hlt => by
    refine Has.grown ((hC.has hh hne).alloc ob) hgrow (fun e => ?_)
    have := (hvb gg e).1
    omega
  have hRR : ∀ {ts : List GTok} {a e : Int}, RR w2 r ts a e → RR (w4.setCell ⟨w.heap.size + 1, 1, none⟩ (.slice (some ⟨g, 0, none⟩) (M.length + 1) cap)) r ts a e := fun {ts a e} h =>
    RR.far (RR.grown (RR.alloc h ob) hgrow (fun k hk => by have := (hvb k hk).1; omega)) (by show r < w.heap.size + 1; omega) _
  have hT4 := (fr hT (by omega) (by omega)).set 1 (.slice (some ⟨g, 0, none⟩) (M.length + 1) cap)
  refine ⟨?_, ?_, ?_⟩
  · exact (((hC0.trans hC).alloc ob).grown hgrow (fun k hk => by have := (hvb k hk).1; omega)).put (Or.inr (by show w.heap.size ≤ w.heap.size + 1; omega)) _
  · exact (fr hZ (by omega) (by omega)).far (by show w.heap.size ≠ w.heap.size + 1; omega) _
  · rcases hF with ⟨t, ts, h1, h2, h3, h4, h5, h6⟩ | ⟨a, er, ts, h1, h2, h3⟩
    · subst h2 h3
      refine Or.inl ⟨t, ts, _, .slice p t.args.length c, h1, ?_, hT4, hRR h6⟩
      exact ((own_ch hO hC (by omega)).add (lo := wr.heap.size) h4 h5 (by omega) (fun k hk => (hvb k hk).2) hown hgrow hat).far (by show w.heap.size + 1 < w.heap.size + 2; omega) _
    · exact Or.inr ⟨a, er, _, _, _, ts, h1, h2, hT4, hRR h3⟩
end RefC0
end Go.Proofs.YtdalepdpobcpaaaDoor
