/- What the plain parser answers on the examples that every law of the chapter checks. No conditions. -/
import Derived.Test.YtdalepdpobcpaaaDoorParQ
namespace Go.Proofs.YtdalepdpobcpaaaDoor
open Go Go.RowKit
namespace ParAw
open Kit LexM TermM LexE LexF LexG LexP ParM ParV
theorem aw1 : wholeF (descF 129 []) [112, 40, 88, 41, 32, 105, 102, 32, 113, 40, 88, 41, 32, 97, 110, 100, 32, 110, 111, 116, 32, 114, 40, 88, 41, 46, 32, 113, 40, 97, 41, 46] = .good [((.mk ⟨#[112]⟩ [(.mk ⟨#[88]⟩ [])]), [(false, (.mk ⟨#[113]⟩ [(.mk ⟨#[88]⟩ [])])), (true, (.mk ⟨#[114]⟩ [(.mk ⟨#[88]⟩ [])]))]), ((.mk ⟨#[113]⟩ [(.mk ⟨#[97]⟩ [])]), [])] [] := by kernel_rfl
theorem aw2 : wholeF (termF 4) [102, 40, 97, 44, 98, 44, 99, 44, 100, 44, 101, 41] = .bad 10 5 := by kernel_rfl
theorem aw3 : wholeF ruleF [112, 32, 105, 102, 32, 113] = .bad 6 1 := by kernel_rfl
theorem aw4 : wholeF termsF [97, 44, 32, 102, 40, 88, 41, 44, 32, 51] = .good [(.mk ⟨#[97]⟩ []), (.mk ⟨#[102]⟩ [(.mk ⟨#[88]⟩ [])]), (.mk ⟨#[51]⟩ [])] [] := by kernel_rfl
end ParAw
end Go.Proofs.YtdalepdpobcpaaaDoor
