/- Two states that differ outside of a gate's cone give the gate one value, as plain data. Conditions: a valid network with at most 64 bases and inputs. Made by gnCd.py. -/
import Derived.Test.YtkfeliogglnngaaNetCc
namespace Go.Proofs.Ytkfeliogglnngaa
open Go
namespace NetCd
open LexM TermM NetM NetN NetMk NetOk NetEv NetCo NetBp NetCc
theorem ix_base {n : Nt} {i : Nat} {g : Gt} (ok : GOk n i g) (h : g.1 = 2) : ∃ ix : Nat, g.2.1 = (ix : Int) ∧ ix < n.bases.length := by
  have h0 := ok.x0
  have hm := ok.xm
  unfold mostIx at hm
  rw [if_pos h] at hm
  exact ⟨g.2.1.toNat, by omega, by omega⟩
theorem ix_input {n : Nt} {i : Nat} {g : Gt} (ok : GOk n i g) (h : g.1 = 3) : ∃ ix : Nat, g.2.1 = (ix : Int) ∧ ix < n.inputs.length := by
  have h0 := ok.x0
  have hm := ok.xm
  unfold mostIx at hm
  rw [if_neg (by omega), if_pos h] at hm
  exact ⟨g.2.1.toNat, by omega, by omega⟩
/-- The bits of some gates' bases fit. -/
theorem ors_fit {n : Nt} (hn : NOk n) (hb : n.bases.length ≤ 64) (hi : n.inputs.length ≤ 64) {l : List Int} (hl : ∀ x ∈ l, 0 ≤ x ∧ x < (n.gates.length : Int)) : orsK n 2 l < 2 ^ 64 ∧ orsK n 3 l < 2 ^ 64 := by
  unfold orsK
  constructor
  · refine ors_lt l 0 (by decide) fun x hx hk => ?_
    have hr := hl x hx
    obtain ⟨t, rfl⟩ : ∃ t : Nat, x = (t : Int) := ⟨x.toNat, by omega⟩
    obtain ⟨g, hg⟩ : ∃ g, n.gates[t]? = some g := ⟨n.gates[t]'(by omega), by simp⟩
    rw [k_get hg] at *
    obtain ⟨ix, e, h⟩ := ix_base (hn.gate t g hg) hk
    omega
  · refine ors_lt l 0 (by decide) fun x hx hk => ?_
    have hr := hl x hx
    obtain ⟨t, rfl⟩ : ∃ t : Nat, x = (t : Int) := ⟨x.toNat, by omega⟩
    obtain ⟨g, hg⟩ : ∃ g, n.gates[t]? = some g := ⟨n.gates[t]'(by omega), by simp⟩
    rw [k_get hg] at *
    obtain ⟨ix, e, h⟩ := ix_input (hn.gate t g hg) hk
    omega
theorem apart_same {n : Nt} (hn : NOk n) (hb : n.bases.length ≤ 64) (hi : n.inputs.length ≤ 64) {a b c d k : Nat} (hk : k < n.gates.length) :
    vAt (valsN (bitsL a n.bases.length) (bitsL b n.inputs.length) n) k = vAt (valsN (bitsL (mixB a c (orsK n 2 (coneN n k))) n.bases.length) (bitsL (mixB b d (orsK n 3 (coneN n k))) n.inputs.length) n) k := by
  obtain ⟨f2, f3⟩ := ors_fit hn hb hi (cone_range (n := n) (g := k))
  refine cone_same hn (i := k) (fun j g hc hg h2 => ?_) (fun j g hc hg h3 => ?_) k hk (cone_self hk)
  · obtain ⟨ix, e, h⟩ := ix_base (hn.gate j g hg) h2
    have hbit := ors_bit (n := n) (kd := 2) (cone_mem.2 hc) (by rw [k_get hg]; exact h2)
    rw [k_get hg, e, Int.toNat_natCast] at hbit
    rw [e, bits_mem, bits_mem, mix_bit f2 hbit]
  · obtain ⟨ix, e, h⟩ := ix_input (hn.gate j g hg) h3
    have hbit := ors_bit (n := n) (kd := 3) (cone_mem.2 hc) (by rw [k_get hg]; exact h3)
    rw [k_get hg, e, Int.toNat_natCast] at hbit
    rw [e, bits_mem, bits_mem, mix_bit f3 hbit]
theorem or_yes {n : Nt} {t : Nat} {g : Gt} {kd : Int} {s ix : Nat} (hg : n.gates[t]? = some g) (hk : g.1 = kd) (hx : g.2.1 = (ix : Int)) : orK n kd s (t : Int) = s ||| 2 ^ ix := by
  unfold orK
  rw [k_get hg, if_pos hk, hx, Int.toNat_natCast]
theorem or_no {n : Nt} {t : Nat} {g : Gt} {kd : Int} {s : Nat} (hg : n.gates[t]? = some g) (hk : g.1 ≠ kd) : orK n kd s (t : Int) = s := by
  unfold orK
  rw [k_get hg, if_neg hk]
theorem or_shift {sn ix : Nat} (hs : sn < 2 ^ 64) (hx : ix < 64) : bits BinOp.or IntKind.u64 (sn : Int) (IntKind.u64.wrap (2 ^ ix)) = ((sn ||| 2 ^ ix : Nat) : Int) := by
  have h1 : (2 : Nat) ^ ix < 2 ^ 64 := Nat.pow_lt_pow_right (by decide) hx
  have e : ((2 : Int) ^ ix) = ((2 ^ ix : Nat) : Int) := by simp
  rw [e, IntKind.wrap_u64]
  obtain ⟨d, hd⟩ : ∃ d, d = (2 : Nat) ^ ix := ⟨_, rfl⟩
  rw [← hd] at h1 ⊢
  rw [show ((d : Int) % 18446744073709551616) = (d : Int) by omega]
  exact bits_or_u64_nat sn d (by omega) (by omega)
theorem or_fit {sn ix : Nat} (hs : sn < 2 ^ 64) (hx : ix < 64) : sn ||| 2 ^ ix < 2 ^ 64 := Nat.or_lt_two_pow hs (Nat.pow_lt_pow_right (by decide) hx)
theorem mix_eq {p q s : Nat} (hp : p < 2 ^ 64) (hq : q < 2 ^ 64) (hs : s < 2 ^ 64) : bits BinOp.or IntKind.u64 (bits BinOp.and IntKind.u64 (p : Int) (s : Int)) (bits BinOp.andNot IntKind.u64 (q : Int) (s : Int)) = (mixB p q s : Int) := by
  rw [bits_and_u64_nat p s (by omega) (by omega), bits_andnot_u64 q s (by omega) (by omega), bits_or_u64_nat _ _ (Nat.lt_of_le_of_lt Nat.and_le_left (by omega)) (Nat.lt_of_le_of_lt Nat.and_le_left (by omega))]
  rfl
end NetCd
end Go.Proofs.Ytkfeliogglnngaa
