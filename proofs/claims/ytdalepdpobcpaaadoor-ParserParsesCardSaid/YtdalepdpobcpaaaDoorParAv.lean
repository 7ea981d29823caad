/- The chapter's examples in memory. Condition: the reserved words lie as laid. -/
import Derived.Test.YtdalepdpobcpaaaDoorParAw
import Derived.Test.YtdalepdpobcpaaaDoorParY
namespace Go.Proofs.YtdalepdpobcpaaaDoor
open Go Go.RowKit
namespace ParAv
open Kit LexM TermM TermI TermU LexE LexF LexG LexP ParM ParA ParB ParC ParD ParK ParE ParF ParG ParH ParI ParW ParV ParX ParX2 ParX3 ParY ParP ParQ ParAw
def exL : List Rl := [((.mk ⟨#[112]⟩ [(.mk ⟨#[88]⟩ [])]), [(false, (.mk ⟨#[113]⟩ [(.mk ⟨#[88]⟩ [])])), (true, (.mk ⟨#[114]⟩ [(.mk ⟨#[88]⟩ [])]))]), ((.mk ⟨#[113]⟩ [(.mk ⟨#[97]⟩ [])]), [])]
def exT : List Tm := [(.mk ⟨#[97]⟩ []), (.mk ⟨#[102]⟩ [(.mk ⟨#[88]⟩ [])]), (.mk ⟨#[51]⟩ [])]
theorem ex1 (w : World) (hw : Wd w) : Calls Tryd.prog 12 #[.string ⟨#[112, 40, 88, 41, 32, 105, 102, 32, 113, 40, 88, 41, 32, 97, 110, 100, 32, 110, 111, 116, 32, 114, 40, 88, 41, 46, 32, 113, 40, 97, 41, 46]⟩] w fun e w' => ∃ p c, e = .returned (.tuple #[.slice p 2 c, .int .i64 0, .int .i64 0]) ∧ RIn (fun b => w.heap.size ≤ b ∧ b < w'.heap.size) w' exL (.slice p 2 c) ∧ Below w.heap.size w w' := by
  refine (parse_any _ w hw (by decide)).mono ?_
  rintro e w' (⟨l, p, c, hO, rfl, hS, hB⟩ | ⟨a, er, hO, rfl, hB⟩)
  · have hO := aw1.symm.trans hO
    injection hO with hO _
    subst hO
    exact ⟨p, c, rfl, hS, hB⟩
  · have hO := aw1.symm.trans hO
    cases hO
theorem ex2 (w : World) (hw : Wd w) : Calls Tryd.prog 18 #[.string ⟨#[102, 40, 97, 44, 98, 44, 99, 44, 100, 44, 101, 41]⟩] w fun e w' => e = .returned (.tuple #[.agg #[.string ⟨#[]⟩, .slice none 0 0], .int .i64 10, .int .i64 5]) ∧ Below w.heap.size w w' := by
  refine (cterm_any _ w hw (by decide)).mono ?_
  rintro e w' (⟨l, p, c, hO, rfl, hS, hn, hB⟩ | ⟨a, er, hO, rfl, hB⟩)
  · have hO := aw2.symm.trans hO
    cases hO
  · have hO := aw2.symm.trans hO
    injection hO with h1 h2
    subst h1 h2
    exact ⟨rfl, hB⟩
theorem ex3 (w : World) (hw : Wd w) : Calls Tryd.prog 15 #[.string ⟨#[112, 32, 105, 102, 32, 113]⟩] w fun e w' => e = .returned (.tuple #[.agg #[.string ⟨#[]⟩, .slice none 0 0, .slice none 0 0], .int .i64 6, .int .i64 1]) ∧ Below w.heap.size w w' := by
  refine (crule_any _ w hw (by decide)).mono ?_
  rintro e w' (⟨l, p, c, q, d, hO, rfl, hS, hB⟩ | ⟨a, er, hO, rfl, hB⟩)
  · have hO := aw3.symm.trans hO
    cases hO
  · have hO := aw3.symm.trans hO
    injection hO with h1 h2
    subst h1 h2
    exact ⟨rfl, hB⟩
theorem ex4 (w : World) (hw : Wd w) : Calls Tryd.prog 20 #[.string ⟨#[97, 44, 32, 102, 40, 88, 41, 44, 32, 51]⟩] w fun e w' => ∃ p c, e = .returned (.tuple #[.slice p 3 c, .int .i64 0, .int .i64 0]) ∧ SlIn (fun b => w.heap.size ≤ b ∧ b < w'.heap.size) w' exT (.slice p 3 c) ∧ Below w.heap.size w w' := by
  refine (cterms_any _ w hw (by decide)).mono ?_
  rintro e w' (⟨l, p, c, hO, rfl, hS, hB⟩ | ⟨a, er, hO, rfl, hB⟩)
  · have hO := aw4.symm.trans hO
    injection hO with hO _
    subst hO
    exact ⟨p, c, rfl, hS, hB⟩
  · have hO := aw4.symm.trans hO
    cases hO
end ParAv
end Go.Proofs.YtdalepdpobcpaaaDoor
