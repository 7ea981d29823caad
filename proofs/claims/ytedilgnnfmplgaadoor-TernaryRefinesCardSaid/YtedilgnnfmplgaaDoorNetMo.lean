/- Evaluation is monotone without negations, as plain data. No conditions. Made by gnE2.py. -/
import Derived.Test.YtedilgnnfmplgaaDoorNetBp
namespace Go.Proofs.YtedilgnnfmplgaaDoor
open Go
namespace NetMo
open LexM TermM NetM NetN NetMk NetOk NetEv NetBp
theorem gv_mono {st st' ip ip' : List Int} {V V' : List Bool} {g : Gt} (h6 : g.1 ≠ 6) (hs : ∀ x ∈ st, x ∈ st') (hi : ∀ x ∈ ip, x ∈ ip') (hv : ∀ x ∈ g.2.2, vAt V x = true → vAt V' x = true) (h : gvN st ip V g = true) : gvN st' ip' V' g = true := by
  unfold gvN at *
  by_cases h2 : g.1 = 2
  · rw [if_pos h2, decide_eq_true_eq] at *
    exact hs _ h
  rw [if_neg h2] at *
  by_cases h3 : g.1 = 3
  · rw [if_pos h3, decide_eq_true_eq] at *
    exact hi _ h
  rw [if_neg h3] at *
  by_cases h4 : g.1 = 4
  · rw [if_pos h4, List.all_eq_true] at *
    exact fun x hx => hv x hx (h x hx)
  rw [if_neg h4] at *
  by_cases h5 : g.1 = 5
  · rw [if_pos h5, List.any_eq_true] at *
    obtain ⟨x, hx, k⟩ := h
    exact ⟨x, hx, hv x hx k⟩
  rw [if_neg h5, if_neg h6] at *
  exact h
theorem vals_mono {n : Nt} {st st' ip ip' : List Int} (hn : NOk n) (h6 : ∀ (k : Nat) g, n.gates[k]? = some g → g.1 ≠ 6) (hs : ∀ x ∈ st, x ∈ st') (hi : ∀ x ∈ ip, x ∈ ip') : ∀ k : Nat, k < n.gates.length → vAt (valsN st ip n) k = true → vAt (valsN st' ip' n) k = true := by
  intro k
  induction k using Nat.strongRecOn with
  | ind k IH =>
    intro hk h
    obtain ⟨g, hg⟩ : ∃ g, n.gates[k]? = some g := ⟨n.gates[k], List.getElem?_eq_getElem hk⟩
    have ok := hn.gate k g hg
    have e1 : vAt (valsN st ip n) k = gvN st ip (valsN st ip n) g := v_get (vals_at st ip hn hg)
    have e2 : vAt (valsN st' ip' n) k = gvN st' ip' (valsN st' ip' n) g := v_get (vals_at st' ip' hn hg)
    rw [e1] at h
    rw [e2]
    refine gv_mono (h6 k g hg) hs hi (fun x hx hv => ?_) h
    have hr := ok.rd x hx
    obtain ⟨j, rfl⟩ : ∃ j : Nat, x = (j : Int) := ⟨x.toNat, by omega⟩
    exact IH j (by omega) (by omega) hv
theorem bits_or (a b m : Nat) : ∀ x ∈ bitsL a m, x ∈ bitsL (a ||| b) m := by
  intro x hx
  unfold bitsL at hx
  rw [NetBp.nums_mem] at hx
  obtain ⟨j, hj, rfl, hs⟩ := hx
  have h64 : j < 64 := by omega
  rw [bits_get h64] at hs
  injection hs with hs
  exact bits_mem.2 ⟨by omega, h64, by rw [Nat.testBit_or, hs]; rfl⟩
theorem ev_bits {g : Tm → Bool} {n : Nt} (h : chkN g n = 0) (a b : Nat) : evE g (bitsL a n.bases.length) (bitsL b n.inputs.length) n = 0 := ev_ok h (bits_ok _ _) (bits_ok _ _)
end NetMo
end Go.Proofs.YtedilgnnfmplgaaDoor
