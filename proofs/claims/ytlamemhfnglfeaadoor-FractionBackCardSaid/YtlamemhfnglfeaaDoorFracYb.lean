/- The listed variables of FractionBack's row: a world that holds them (three tables and strconv's two sentinels), and what a row's list and a shaped world give a walk. No conditions. -/
import Derived.Test.YtlamemhfnglfeaaDoorFracY
import Derived.Test.YtlamemhfnglfeaaDoorFracB3
import Derived.Stop.LaidErr
namespace Go.Proofs.YtlamemhfnglfeaaDoor
open Go Go.RowKit Go.ChangeShapes Go.WideShapes Go.ChangeAt
namespace FracYb
abbrev list : List (String × DataW Unit) := [("math/bits.deBruijn32tab", Rows.laid_math_bits_deBruijn32tab), ("math/bits.deBruijn64tab", Rows.laid_math_bits_deBruijn64tab), ("internal/strconv.uint64pow10", Rows.laid_internal_strconv_uint64pow10), ("strconv.ErrRange", Rows.laid_strconv_ErrRange), ("strconv.ErrSyntax", Rows.laid_strconv_ErrSyntax)]
abbrev textR : ByteArray := ⟨#[118, 97, 108, 117, 101, 32, 111, 117, 116, 32, 111, 102, 32, 114, 97, 110, 103, 101]⟩
abbrev textS : ByteArray := ⟨#[105, 110, 118, 97, 108, 105, 100, 32, 115, 121, 110, 116, 97, 120]⟩
noncomputable def low : Nat := (World.holding Tryd.prog default ⟨#[], #[], []⟩).heap.size
noncomputable def laidWorld (os : Os) : World :=
  FracY.lay1 (FracY.lay1 (FracY.lay1 (FracY.lay1 (FracY.lay1 (World.holding Tryd.prog os ⟨#[.cells #[.string textR] 91, .cells #[.string textS] 91], #[], []⟩)
    2 #[.iface 89 (.pointer (some ⟨low, 0, none⟩))])
    1 #[.iface 89 (.pointer (some ⟨low + 1, 0, none⟩))])
    3 (FracY.cellsOf Lib.pow10Tab .u64))
    4 (FracY.cellsOf [0, 1, 28, 2, 29, 14, 24, 3, 30, 22, 20, 15, 25, 17, 4, 8, 31, 27, 13, 23, 21, 19, 16, 7, 26, 12, 18, 6, 11, 5, 10, 9] .u8))
    5 (FracY.cellsOf [0, 1, 56, 2, 57, 49, 28, 3, 61, 58, 42, 50, 38, 29, 17, 4, 62, 47, 59, 36, 45, 43, 51, 22, 53, 39, 33, 30, 24, 18, 12, 5, 63, 55, 48, 27, 60, 41, 37, 16, 46, 35, 44, 21, 52, 32, 23, 11, 54, 26, 40, 15, 34, 20, 31, 10, 25, 14, 19, 9, 13, 8, 7, 6] .u8)
theorem laid_met_gen (os : Os) (args : Array Value) : laidMet Tryd.prog list ((laidWorld os).forCall (fun _ _ => 0) ⟨#[], args, []⟩).memory :=
  laidMet_of_run' 8 (by kernel_rfl) (by kernel_rfl)
theorem table_gen {W : World} (h : laidMetH Tryd.prog list W) : FracT.Tab W := by
  have h1 : laidMet Tryd.prog list W := h
  have h2 := laidMet.filter (fun x => x.1 == "internal/strconv.uint64pow10") h1
  have h3 : laidMet Tryd.prog [("internal/strconv.uint64pow10", Lib.tabData .u64 Lib.pow10Tab)] W := h2
  exact Lib.tabIs_of_head (rest := []) (t := 93) (e := 43) (n := 20) FracY.gTab (by kernel_rfl) (by kernel_rfl) (by kernel_rfl) (by kernel_rfl) (by kernel_rfl) h3
theorem star : "*" ++ "errors.errorString" = "*errors.errorString" := by decide
theorem rowE (u : TypeId) (h : Tryd.prog.typeName? 3 u = some "*errors.errorString") : u = 89 :=
  typeName_ptr_named (nm := "errors.errorString") (by rw [star]; kernel_rfl) (by kernel_rfl) (by decide) u (by rw [star]; exact h)
theorem gS : Tryd.prog.globalNamed "strconv.ErrSyntax" = some 1 := by kernel_rfl
theorem gR : Tryd.prog.globalNamed "strconv.ErrRange" = some 2 := by kernel_rfl
theorem tS : (Tryd.prog.globals[1]?).map (·.type) = some 52 := by kernel_rfl
theorem tR : (Tryd.prog.globals[2]?).map (·.type) = some 52 := by kernel_rfl
theorem cE : Tryd.prog.cellsOf 91 = 1 := by kernel_rfl
theorem cS : Tryd.prog.cellsOf 9 = 1 := by kernel_rfl
theorem lt_of_cell {W : World} {g : Nat} {v : Value} (h : W.cell? ⟨g, 0, none⟩ = some v) : g < W.heap.size := by
  rcases Nat.lt_or_ge g W.heap.size with h1 | h1
  · exact h1
  · simp [World.cell?, Array.getElem?_eq_none h1] at h
theorem cnd {W : World} (hL : laidMetH Tryd.prog list W) (h : W.ShapedOpen Tryd.prog) : FracB3.Cnd W := by
  have h1 : laidMet Tryd.prog list W := hL
  have h2 := laidMet.filter (fun x => x.1 == "strconv.ErrSyntax") h1
  have h3 : laidMet Tryd.prog [("strconv.ErrSyntax", Rows.laid_strconv_ErrSyntax)] W := h2
  have k2 := laidMet.filter (fun x => x.1 == "strconv.ErrRange") h1
  have k3 : laidMet Tryd.prog [("strconv.ErrRange", Rows.laid_strconv_ErrRange)] W := k2
  obtain ⟨a1, s1, v1, _⟩ := laid_sentinel h3 gS tS Tryd.underlying52 rowE Tryd.underlying89 Tryd.underlying91 rfl rfl Tryd.underlying9 cE cS
  obtain ⟨a2, s2, v2, _⟩ := laid_sentinel k3 gR tR Tryd.underlying52 rowE Tryd.underlying89 Tryd.underlying91 rfl rfl Tryd.underlying9 cE cS
  have c1 : W.cell? ⟨1, 0, none⟩ = some (.iface 89 (.pointer (some a1))) := by simpa using World.var?_cell gS v1 0
  have c2 : W.cell? ⟨2, 0, none⟩ = some (.iface 89 (.pointer (some a2))) := by simpa using World.var?_cell gR v2 0
  exact ⟨table_gen hL, ⟨by have := lt_of_cell c1; omega, Tryd.laysM145.s1_3 W h⟩, ⟨lt_of_cell c1, _, c1, Or.inr ⟨_, _, rfl⟩⟩, ⟨lt_of_cell c2, _, c2, Or.inr ⟨_, _, rfl⟩⟩⟩
end FracYb
end Go.Proofs.YtlamemhfnglfeaaDoor
