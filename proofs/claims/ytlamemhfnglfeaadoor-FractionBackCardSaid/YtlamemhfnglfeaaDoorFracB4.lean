/- Parse of the package, for all strings of at most 1000 bytes. Conditions: those of FracB3. -/
import Derived.Test.YtlamemhfnglfeaaDoorFracB3
namespace Go.Proofs.YtlamemhfnglfeaaDoor
open Go Go.RowKit
namespace FracB4
open Kit FracT FracM FracB1 FracB2 FracB3
open Go.Lib (atoiAll itoa)
theorem cut_le (l : List UInt8) : (Lib.cut l [47]).1.length ≤ l.length ∧ (Lib.cut l [47]).2.1.length ≤ l.length := by
  unfold Lib.cut
  split
  · simp only [List.length_take, List.length_drop]; omega
  · simp
theorem dens_le (l : List UInt8) : (dens l).length ≤ l.length + 1 := by
  unfold dens
  have := cut_le l
  split
  · omega
  · simp
theorem size_of (l : List UInt8) : (⟨l.toArray⟩ : ByteArray).size = l.length := by show l.toArray.size = _; simp
theorem dens_eq (l : List UInt8) : (⟨(dens l).toArray⟩ : ByteArray) = if (Lib.cut l [47]).2.2 = true then ⟨(Lib.cut l [47]).2.1.toArray⟩ else ⟨#[49]⟩ := by
  unfold dens
  split <;> rfl
theorem codeP_bad1 (l : List UInt8) (h : ∀ v, atoiAll (Lib.cut l [47]).1 ≠ .ok v) : codeP l = (0, 0, 1) := by
  unfold codeP
  split
  · rename_i h1 _; exact absurd h1 (h _)
  · rfl
theorem codeP_bad2 (l : List UInt8) (h : ∀ v, atoiAll (dens l) ≠ .ok v) : codeP l = (0, 0, 1) := by
  unfold codeP
  split
  · rename_i h1; exact absurd h1 (h _)
  · rfl
theorem codeP_two (l : List UInt8) (n d : Int) (h1 : atoiAll (Lib.cut l [47]).1 = .ok n) (h2 : atoiAll (dens l) = .ok d) : codeP l = if vld n d = true ∧ text n d = l then (n, d, 0) else (0, 0, 1) := by
  unfold codeP
  rw [h1, h2]
theorem parse_any (s : ByteArray) (hs : s.size ≤ 900) (w : World) (hc : Cnd w) :
    Calls Tryd.prog 36 #[.string s] w fun e w' => e = PR (codeP s.data.toList).1 (codeP s.data.toList).2.1 (codeP s.data.toList).2.2 ∧ Below w.heap.size w w' := by
  have hl := FracB2.len_eq s
  have z1 := cut_le s.data.toList
  have z2 := dens_le s.data.toList
  have C1 := fun w hc => cut_any s (by omega) w hc
  have C3 := fun w hc => atoi_any ⟨(dens s.data.toList).toArray⟩ (by rw [size_of]; omega) w hc
  by_cases h1 : ∃ n, atoiAll (Lib.cut s.data.toList [47]).1 = .ok n
  · obtain ⟨n, h1⟩ := h1
    have C2 := fun w (_ : Cnd w) => atoi_ok ⟨(Lib.cut s.data.toList [47]).1.toArray⟩ (by rw [size_of]; omega) n h1 w
    by_cases h2 : ∃ d, atoiAll (dens s.data.toList) = .ok d
    · obtain ⟨d, h2⟩ := h2
      obtain ⟨n1, n2⟩ := Lib.atoiAll_bounds h1
      obtain ⟨d1, d2⟩ := Lib.atoiAll_bounds h2
      rw [codeP_two _ n d h1 h2]
      have hx := parse_two n d (vld n d) ⟨(text n d).toArray⟩ s _ _ _ _ (dens_eq s.data.toList) w hc C1 C2
        (fun w => FracD.valid_any n d w n1 n2 d1 d2) (fun w hc => FracT.text_any n d w n1 n2 d1 d2 hc.tab)
        (fun w _ => atoi_ok ⟨(dens s.data.toList).toArray⟩ (by rw [size_of]; omega) d h2 w)
      refine hx.mono fun e w' ⟨he, hb⟩ => ⟨?_, hb⟩
      rw [he]
      have q : (vld n d = true ∧ (⟨(text n d).toArray⟩ : ByteArray) = s) ↔ (vld n d = true ∧ text n d = s.data.toList) := by
        constructor
        · rintro ⟨a, b⟩
          exact ⟨a, by rw [← b]⟩
        · rintro ⟨a, b⟩
          exact ⟨a, by rw [b]⟩
      by_cases hq : vld n d = true ∧ text n d = s.data.toList
      · rw [if_pos hq, if_pos (q.2 hq)]
      · rw [if_neg hq, if_neg (fun h => hq (q.1 h))]
    · rw [codeP_bad2 _ (fun v hv => h2 ⟨v, hv⟩)]
      exact parse_bad2 n s _ _ _ _ (dens_eq s.data.toList) w hc C1 C2 (fun w hc => atoi_bad ⟨(dens s.data.toList).toArray⟩ (by rw [size_of]; omega) (fun v hv => h2 ⟨v, hv⟩) w hc)
  · rw [codeP_bad1 _ (fun v hv => h1 ⟨v, hv⟩)]
    exact parse_bad1 s _ _ _ _ (dens_eq s.data.toList) w hc C1 (fun w hc => atoi_bad ⟨(Lib.cut s.data.toList [47]).1.toArray⟩ (by rw [size_of]; omega) (fun v hv => h1 ⟨v, hv⟩) w hc) C3
end FracB4
end Go.Proofs.YtlamemhfnglfeaaDoor
