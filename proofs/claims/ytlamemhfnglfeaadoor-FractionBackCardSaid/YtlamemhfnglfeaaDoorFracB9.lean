/- Parse of the reference, for all strings of at most 900 bytes. No conditions. -/
import Derived.Test.YtlamemhfnglfeaaDoorFracB8
namespace Go.Proofs.YtlamemhfnglfeaaDoor
open Go Go.RowKit
namespace FracB9
open Kit FracT FracM FracB1 FracB2 FracB3 FracB5 FracB6 FracB7 FracB8
theorem post_ref (s t : ByteArray) (h : t.data.toList = unsign s.data.toList) : Post s (numR t.data.toList) (signed s.data.toList (numR t.data.toList)) (denR t.data.toList) = PR (refP s.data.toList).1 (refP s.data.toList).2.1 (refP s.data.toList).2.2 := by
  rw [h]
  unfold Post refP
  by_cases h1 : numR (unsign s.data.toList) < 0
  · rw [if_pos h1, if_pos h1]
  · rw [if_neg h1, if_neg h1]
    have q : ∀ l : List UInt8, (⟨l.toArray⟩ : ByteArray) = s ↔ l = s.data.toList := fun l => by
      constructor
      · intro h; rw [← h]
      · intro h; rw [h]
    by_cases h2 : vld (signed s.data.toList (numR (unsign s.data.toList))) (denR (unsign s.data.toList)) = true ∧ text (signed s.data.toList (numR (unsign s.data.toList))) (denR (unsign s.data.toList)) = s.data.toList
    · rw [if_pos h2, if_pos ⟨h2.1, (q _).2 h2.2⟩]
    · rw [if_neg h2, if_neg (fun h => h2 ⟨h.1, (q _).1 h.2⟩)]
theorem rparse_any (s : ByteArray) (hs : s.size ≤ 900) (w : World) :
    Calls Tryd.prog 37 #[.string s] w fun e w' => e = PR (refP s.data.toList).1 (refP s.data.toList).2.1 (refP s.data.toList).2.2 ∧ Below w.heap.size w w' := by
  have hl := FracB2.len_eq s
  by_cases h0 : 0 < s.size
  · obtain ⟨l, hc⟩ : ∃ l, s.data.toList = s[0] :: l := by
      have h := at_list s 0 h0
      cases e : s.data.toList with
      | nil => rw [e] at h; simp at h
      | cons b l =>
        rw [e] at h
        obtain rfl : b = s[0] := by simpa using h
        exact ⟨l, rfl⟩
    have hm : minus s.data.toList = ((s[0].toNat : Int) == 45) := by rw [hc]; rfl
    cases h45 : ((s[0].toNat : Int) == 45)
    · obtain ⟨t1, t2, X⟩ := txt_of s
      have hu : s.data.toList = unsign s.data.toList := by unfold unsign; rw [hm, h45, if_neg (by decide)]
      have hg : signed s.data.toList (numR s.data.toList) = numR s.data.toList := by unfold signed; rw [hm, h45, if_neg (by decide)]
      have k := pos s s _ _ _ t1 t2 w h0 h45 rfl X hs hs
      rw [← post_ref s s hu, hg]
      exact k
    · obtain ⟨t1, t2, X⟩ := txt_of (s.extract 1 s.size)
      have hu : (s.extract 1 s.size).data.toList = unsign s.data.toList := by
        unfold unsign
        rw [hm, h45, if_pos rfl, ext1 s 0]
      have hg : signed s.data.toList (numR (s.extract 1 s.size).data.toList) = - numR (s.extract 1 s.size).data.toList := by unfold signed; rw [hm, h45, if_pos rfl]
      have k := neg s _ _ _ _ t1 t2 w h0 h45 rfl X (by simp; omega) hs
      rw [← post_ref s _ hu, hg]
      exact k
  · obtain ⟨t1, t2, X⟩ := txt_of s
    have hn : s.data.toList = [] := List.length_eq_zero_iff.1 (by omega)
    have hm : minus s.data.toList = false := by rw [hn]; rfl
    have hu : s.data.toList = unsign s.data.toList := by unfold unsign; rw [hm, if_neg (by decide)]
    have hg : signed s.data.toList (numR s.data.toList) = numR s.data.toList := by unfold signed; rw [hm, if_neg (by decide)]
    have k := none s s _ _ _ t1 t2 w h0 rfl X hs hs
    rw [← post_ref s s hu, hg]
    exact k
end FracB9
end Go.Proofs.YtlamemhfnglfeaaDoor
