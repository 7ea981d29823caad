/- Opening a list of tokens that comes in: its tokens lie at an address, three cells each. No conditions. -/
import Derived.Test.YtckddlglldfniaaDoorLexI
import Derived.Deep.Slices
import Derived.Deep.SlicePairs
import Derived.Deep.RegionHeld
namespace Go.Proofs.YtckddlglldfniaaDoor
open Go Go.RowKit Go.ChangeShapes Go.Deep
namespace LexZ
open LexI
theorem cellsT : Tryd.prog.cellsOf 30 = 3 := by kernel_rfl
/-- What an integer that was read fits. -/
def Fit (t : GTok) : Prop := (-9223372036854775808 ≤ t.1 ∧ t.1 ≤ 9223372036854775807) ∧ t.2.1.size ≤ maxLen
theorem collect {W : World} {b off m : Nat} (h : ∀ i, i < m → ∃ t : GTok, W.cell? ⟨b, off + i * 3, none⟩ = some (.int .i64 t.1) ∧ W.cell? ⟨b, off + i * 3 + 1, none⟩ = some (.string t.2.1) ∧ W.cell? ⟨b, off + i * 3 + 2, none⟩ = some (.int .i64 t.2.2) ∧ Fit t) :
    ∀ n, n ≤ m → ∃ ts : List GTok, ts.length = n ∧ (∀ i t, ts[i]? = some t → W.cell? ⟨b, off + i * 3, none⟩ = some (.int .i64 t.1) ∧ W.cell? ⟨b, off + i * 3 + 1, none⟩ = some (.string t.2.1) ∧ W.cell? ⟨b, off + i * 3 + 2, none⟩ = some (.int .i64 t.2.2)) ∧ ∀ t ∈ ts, Fit t := by
  intro n
  induction n with
  | zero => intro _; exact ⟨[], rfl, fun i t h => by simp at h, fun t h => by simp at h⟩
  | succ n ih =>
    intro hn
    obtain ⟨ts, hl, hc, hf⟩ := ih (by omega)
    obtain ⟨t, h1, h2, h3, h4⟩ := h n (by omega)
    refine ⟨ts ++ [t], by simp [hl], fun i u hi => ?_, fun u hu => ?_⟩
    · by_cases c : i < n
      · rw [List.getElem?_append_left (by omega)] at hi
        exact hc i u hi
      · have e : i = n := by
          have := (List.getElem?_eq_some_iff.1 hi).1
          simp [hl] at this
          omega
        subst e
        rw [List.getElem?_append_right (by omega), hl, Nat.sub_self] at hi
        simp at hi
        subst hi
        exact ⟨h1, h2, h3⟩
    · rcases List.mem_append.1 hu with hu | hu
      · exact hf u hu
      · simp at hu; subst hu; exact h4
theorem under : ∃ f0 f1 f2 : Field, Tryd.prog.underlying 30 = some (.struct #[f0, f1, f2]) ∧ f0.offset = 0 ∧ f1.offset = 1 ∧ f2.offset = 2 ∧ f0.type = 3 ∧ f1.type = 9 ∧ f2.type = 3 := ⟨_, _, _, Tryd.underlying30, rfl, rfl, rfl, rfl, rfl, rfl⟩
theorem cellsI : Tryd.prog.cellsOf 3 = 1 := by kernel_rfl
theorem cellsS : Tryd.prog.cellsOf 9 = 1 := by kernel_rfl
theorem open_toks {H : Type} {enc : TypeId × Value → H} {W : World} {b0 : Nat} {base : Nat} {held : Bool} {v : Value} {d : DataW H} {p : List MemPlace}
    (hv : Value.okWide Tryd.prog W .any b0 23 v) (h : DataW.Trod enc Tryd.prog W base (fun _ => true) held 23 v d p) :
    (∃ a cap, v = .slice a 0 cap) ∨ ∃ (b off m cap : Nat) (ts : List GTok), v = .slice (some ⟨b, off, none⟩) m cap ∧ Toks W b off ts ∧ ts.length = m ∧ ∀ t ∈ ts, Fit t := by
  obtain ⟨a0, m0, c0, rfl⟩ := Go.WideShapes.okWide_slice Tryd.underlying23 hv
  obtain ⟨fuel, hf⟩ := h
  rcases open_slice Tryd.underlying23 hf with ⟨h0, _⟩ | ⟨a, len, cap, m, n, D, Pl, hc, _, hle, hm, hmm, _, hx⟩
  · simp [Value.cells] at h0
    obtain ⟨rfl, rfl, rfl⟩ := h0
    exact Or.inl ⟨none, 0, rfl⟩
  · simp [Value.cells] at hc
    obtain ⟨rfl, rfl, rfl⟩ := hc
    simp only [if_true] at hmm
    by_cases h0 : m0 = 0
    · subst h0; exact Or.inl ⟨_, _, rfl⟩
    · obtain ⟨b, off, spot⟩ := a
      obtain ⟨f0, f1, f2, hu, o0, o1, o2, y0, y1, y2⟩ := under
      have each : ∀ i, i < m0 → ∃ t : GTok, W.cell? ((⟨b, off, spot⟩ : Addr).add (i * 3)) = some (.int .i64 t.1) ∧ W.cell? ((⟨b, off, spot⟩ : Addr).add (i * 3 + 1)) = some (.string t.2.1) ∧ W.cell? ((⟨b, off, spot⟩ : Addr).add (i * 3 + 2)) = some (.int .i64 t.2.2) ∧ Fit t := by
        intro i hi
        obtain ⟨cs', h1, h2⟩ := hx i (by omega)
        rw [cellsT] at h1
        obtain ⟨_, hlen, hcell⟩ := World.cells?_some h1
        obtain ⟨xs, k, hk, hxy, _, hxl, hf⟩ := DataW.trod_struct hu h2
        match xs, hxl, cs', hlen with
        | [x0, x1, x2], _, [v0, v1, v2], _ =>
          have g0 := hf 0 f0 rfl
          have g1 := hf 1 f1 rfl
          have g2 := hf 2 f2 rfl
          simp [o0, o1, o2, y0, y1, y2, cellsI, cellsS] at g0 g1 g2
          have e0 := hcell 0 (by omega)
          have e1 := hcell 1 (by omega)
          have e2 := hcell 2 (by omega)
          rw [add_add] at e0 e1 e2
          obtain ⟨z0, q0, _, w0⟩ := DataW.trod_int Tryd.underlying3 g0
          obtain ⟨z1, q1, _, w1⟩ := DataW.trod_string Tryd.underlying9 g1
          obtain ⟨z2, q2, _, w2⟩ := DataW.trod_int Tryd.underlying3 g2
          simp at q0 q1 q2
          subst q0 q1 q2
          exact ⟨(z0, z1, z2), by simpa using e0, by simpa using e1, by simpa using e2, bounds_i64 w0, w1⟩
      obtain ⟨t0, z0, _⟩ := each 0 (by omega)
      have hspot : spot = none := by simpa [Addr.add] using World.cell?_spot z0
      subst hspot
      have each' : ∀ i, i < m0 → ∃ t : GTok, W.cell? ⟨b, off + i * 3, none⟩ = some (.int .i64 t.1) ∧ W.cell? ⟨b, off + i * 3 + 1, none⟩ = some (.string t.2.1) ∧ W.cell? ⟨b, off + i * 3 + 2, none⟩ = some (.int .i64 t.2.2) ∧ Fit t := by
        intro i hi
        obtain ⟨t, h1, h2, h3, h4⟩ := each i hi
        rw [Go.WideShapes.add_plain] at h1 h2 h3
        exact ⟨t, h1, h2, h3, h4⟩
      obtain ⟨ts, hl, hcs, hft⟩ := collect each' m0 (Nat.le_refl _)
      rw [Go.WideShapes.add_plain] at z0
      exact Or.inr ⟨b, off, m0, c0, ts, rfl, ⟨World.block_lt_of_cell? W _ z0, hcs⟩, hl, hft⟩
end LexZ
end Go.Proofs.YtckddlglldfniaaDoor
