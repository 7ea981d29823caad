/- The examples of the laws of normal forms, by computation. No conditions. -/
import Derived.Test.YtikkaiiinkeobaaGreatDoorNosI
import Derived.Test.YtikkaiiinkeobaaGreatDoorGAX
namespace Go.Proofs.YtikkaiiinkeobaaGreatDoor
open Go
namespace NosX
open LexM TermM UniM UniK UniD UniE NorB NorC NorM NorP NorQ NorR NorS NosQ NosF NosV NosI
def bb (l : List UInt8) : ByteArray := ⟨l.toArray⟩
def nA : ByteArray := ⟨#[65]⟩
def nB : ByteArray := ⟨#[66]⟩
def nX : ByteArray := ⟨#[88]⟩
def nY : ByteArray := ⟨#[89]⟩
def nP : ByteArray := ⟨#[112]⟩
def nQ : ByteArray := ⟨#[113]⟩
def nR : ByteArray := ⟨#[114]⟩
def n1 : ByteArray := ⟨#[86, 49]⟩
def n2 : ByteArray := ⟨#[86, 50]⟩
def lf (n : ByteArray) : Tm := .mk n []
def e0 : Rl := (.mk nP [lf nB], [(false, .mk nQ [lf nA, lf nB]), (false, lf nR)])
def e1 : Rl := (.mk nP [lf n1], [(false, lf nR), (false, .mk nQ [lf n2, lf n1])])
def e2 : Rl := (.mk nP [lf nX, lf nY], [])
def e3 : Rl := (.mk nP [lf nY, lf nX], [])
def e4 : Rl := (.mk nP [lf nX, lf nX], [])
def y2 : Rl := (.mk nP [lf n1, lf n2], [])
def y4 : Rl := (.mk nP [lf n1, lf n1], [])
def exTxt : List UInt8 := [112, 40, 66, 41, 32, 105, 102, 32, 113, 40, 65, 44, 32, 66, 41, 32, 97, 110, 100, 32, 114, 46, 32, 112, 40, 86, 49, 41, 32, 105, 102, 32, 114, 32, 97, 110, 100, 32, 113, 40, 86, 50, 44, 32, 86, 49, 41, 46, 32, 112, 40, 88, 44, 32, 89, 41, 46, 32, 112, 40, 89, 44, 32, 88, 41, 46, 32, 112, 40, 88, 44, 32, 88, 41, 46]
theorem ex_read : RdM.read exTxt = [e0, e1, e2, e3, e4] := by kernel_rfl
theorem ex_ok : ∀ c ∈ exTxt, RdC.okB c = true := by decide +kernel
theorem nf_exam {r x : Rl} {V : List ByteArray} (hv : vlB r = true) (hn : V.Nodup) (W : List ByteArray) (hW : (lvsR r).filter varB = W) (hVW : ∀ n, n ∈ V ↔ n ∈ W) (h5 : V.length ≤ 5) (hl : LeastOf ((vis V.length (vTs V.length) 0).map (cnd V r)) x) : codeN r = 0 ∧ NfOf r x := by
  have hV : IsVars r V := ⟨hn, fun n => by rw [hVW, ← hW, List.mem_filter]; exact And.comm⟩
  have hp := vars_perm hV (vsr_vars r)
  have hc : codeN r = 0 := by
    unfold codeN
    rw [if_pos hv, if_neg (by rw [← hp.length_eq]; omega)]
  exact ⟨hc, fun _ => nf_perm hp ((nf_iff hn _ fun u => vis_iff).2 hl), fun e => absurd hc e⟩
theorem nodup2 {a b : ByteArray} (h : a.data.toList ≠ b.data.toList) : [a, b].Nodup := by
  simp
  intro e
  exact h (by rw [e])
theorem x0 : codeN e0 = 0 ∧ NfOf e0 e1 := nf_exam (V := [nA, nB]) (by decide +kernel) (nodup2 (by decide)) [nB, nA, nB] (by kernel_rfl) (by intro n; simp only [List.mem_cons, List.not_mem_nil, or_false]; exact ⟨fun h => by rcases h with rfl | rfl <;> simp, fun h => by rcases h with rfl | rfl | rfl <;> simp⟩) (by decide) ⟨List.mem_of_getElem? (i := 1) (by kernel_rfl), by decide +kernel⟩
theorem x1 : codeN e1 = 0 ∧ NfOf e1 e1 := nf_exam (V := [n1, n2]) (by decide +kernel) (nodup2 (by decide)) [n1, n2, n1] (by kernel_rfl) (by intro n; simp only [List.mem_cons, List.not_mem_nil, or_false]; exact ⟨fun h => by rcases h with rfl | rfl <;> simp, fun h => by rcases h with rfl | rfl | rfl <;> simp⟩) (by decide) ⟨List.mem_of_getElem? (i := 0) (by kernel_rfl), by decide +kernel⟩
theorem x2 : codeN e2 = 0 ∧ NfOf e2 y2 := nf_exam (V := [nX, nY]) (by decide +kernel) (nodup2 (by decide)) [nX, nY] (by kernel_rfl) (by intro n; simp) (by decide) ⟨List.mem_of_getElem? (i := 0) (by kernel_rfl), by decide +kernel⟩
theorem x3 : codeN e3 = 0 ∧ NfOf e3 y2 := nf_exam (V := [nX, nY]) (by decide +kernel) (nodup2 (by decide)) [nY, nX] (by kernel_rfl) (by intro n; simp; exact Or.comm) (by decide) ⟨List.mem_of_getElem? (i := 1) (by kernel_rfl), by decide +kernel⟩
theorem x4 : codeN e4 = 0 ∧ NfOf e4 y4 := nf_exam (V := [nX]) (by decide +kernel) (by simp) [nX, nX] (by kernel_rfl) (by intro n; simp) (by decide) ⟨List.mem_of_getElem? (i := 0) (by kernel_rfl), by decide +kernel⟩
theorem y24 : y2 ≠ y4 := fun e => by
  have h : cmpR y2 y4 = 0 := by rw [e]; exact (r_zero _ _).2 rfl
  exact absurd h (by decide +kernel)
theorem s23 {R : Bool} {c : Int} (h : EqOf [e2] [e3] R c) : c = 0 ∧ R = true := by
  obtain ⟨h1, h2⟩ := eq_one h x2.1 x3.1
  refine ⟨h1, h2.2 fun x => ⟨fun hx => ?_, fun hx => ?_⟩⟩
  · rw [nf_det hx x2.2]; exact x3.2
  · rw [nf_det hx x3.2]; exact x2.2
theorem s24 {R : Bool} {c : Int} (h : EqOf [e2] [e4] R c) : c = 0 ∧ R = false := by
  obtain ⟨h1, h2⟩ := eq_one h x2.1 x4.1
  refine ⟨h1, ?_⟩
  cases R with
  | false => rfl
  | true =>
    have := ((h2.1 rfl) y2).1 x2.2
    exact absurd (nf_det this x4.2) y24
theorem ex_codes : codeL [e0, e1, e2, e3, e4] = 0 := by
  unfold codeL
  rw [if_neg (by decide)]
  exact first_ok fun r hr => by
    simp at hr
    rcases hr with rfl | rfl | rfl | rfl | rfl
    · exact x0.1
    · exact x1.1
    · exact x2.1
    · exact x3.1
    · exact x4.1
theorem ex_len {m : List Rl} (h : RsOf [e0, e1, e2, e3, e4] m) : m.length = 3 := by
  obtain ⟨h1, h2⟩ := h.1 ex_codes
  have : m = [e1, y4, y2] := asc_unique r_neg r_zero h1 (by unfold Asc; decide +kernel) fun x => (h2 x).trans (by
    simp only [List.mem_cons, List.not_mem_nil, or_false]
    constructor
    · rintro ⟨r, rfl | rfl | rfl | rfl | rfl, hx⟩
      · exact Or.inl (nf_det hx x0.2)
      · exact Or.inl (nf_det hx x1.2)
      · exact Or.inr (Or.inr (nf_det hx x2.2))
      · exact Or.inr (Or.inr (nf_det hx x3.2))
      · exact Or.inr (Or.inl (nf_det hx x4.2))
    · rintro (rfl | rfl | rfl)
      · exact ⟨e1, Or.inr (Or.inl rfl), x1.2⟩
      · exact ⟨e4, Or.inr (Or.inr (Or.inr (Or.inr rfl))), x4.2⟩
      · exact ⟨e2, Or.inr (Or.inr (Or.inl rfl)), x2.2⟩)
  rw [this]
  rfl
theorem bad : codeN (lf nX, []) = 13 := by
  unfold codeN
  rw [if_neg (by decide +kernel)]
end NosX
end Go.Proofs.YtikkaiiinkeobaaGreatDoor
