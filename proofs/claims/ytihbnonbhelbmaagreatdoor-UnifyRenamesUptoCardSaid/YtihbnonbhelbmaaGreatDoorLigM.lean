/- Light rules, plain: how long a term's key is; terms with names of at most N bytes and at most 19 arguments. No conditions. -/
import Derived.Test.YtihbnonbhelbmaaGreatDoorTermM
namespace Go.Proofs.YtihbnonbhelbmaaGreatDoor
open Go
namespace LigM
open LexM TermM
mutual
def klen : Tm → Nat
  | .mk n l => n.size + 2 + klenL l
def klenL : List Tm → Nat
  | [] => 0
  | t :: l => klen t + 1 + klenL l
end
theorem klenL_app : ∀ a b, klenL (a ++ b) = klenL a + klenL b
  | [], b => by simp [klenL]
  | t :: a, b => by simp [klenL, klenL_app a b, Nat.add_assoc]
theorem klen_next (l : List Tm) (k : Nat) (t : Tm) (h : l[k]? = some t) : klenL (l.take (k + 1)) = klenL (l.take k) + (klen t + 1) := by
  rw [take_get l k t h, klenL_app]
  simp [klenL]
theorem klenL_mem {x : Tm} : ∀ {l : List Tm}, x ∈ l → klen x + 1 ≤ klenL l
  | [], h => by cases h
  | a :: r, h => by
    unfold klenL
    rcases List.mem_cons.1 h with rfl | h
    · omega
    · have := klenL_mem h; omega
theorem len_klen : ∀ l : List Tm, l.length ≤ klenL l
  | [] => Nat.zero_le _
  | t :: l => by
    have := len_klen l
    simp only [List.length_cons, klenL]
    omega
theorem klenL_take (l : List Tm) (k : Nat) : klenL (l.take k) ≤ klenL l := by
  have h := klenL_app (l.take k) (l.drop k)
  rw [List.take_append_drop] at h
  omega
mutual
/-- Names of at most N bytes, at most 19 arguments everywhere. -/
def GN (N : Nat) : Tm → Prop
  | .mk n l => n.size ≤ N ∧ l.length ≤ 19 ∧ GL N l
def GL (N : Nat) : List Tm → Prop
  | [] => True
  | t :: l => GN N t ∧ GL N l
end
theorem gl_iff {N : Nat} : ∀ {l : List Tm}, GL N l ↔ ∀ x ∈ l, GN N x
  | [] => by simp [GL]
  | t :: l => by simp [GL, gl_iff (l := l)]
theorem gn_arg {N : Nat} {n : ByteArray} {l : List Tm} (h : GN N (.mk n l)) {x : Tm} (hx : x ∈ l) : GN N x := by
  unfold GN at h
  exact gl_iff.1 h.2.2 x hx
theorem gn_nm {N : Nat} {t : Tm} (h : GN N t) : t.nm.size ≤ N := by
  obtain ⟨n, l⟩ := t
  unfold GN at h
  exact h.1
theorem gn_mk {N : Nat} {n : ByteArray} {l : List Tm} (h1 : n.size ≤ N) (h2 : l.length ≤ 19) (h3 : ∀ x ∈ l, GN N x) : GN N (.mk n l) := by
  unfold GN
  exact ⟨h1, h2, gl_iff.2 h3⟩
theorem depL_mem {x : Tm} : ∀ {l : List Tm}, x ∈ l → depthT x ≤ depthL l
  | [], h => by cases h
  | a :: r, h => by
    unfold depthL
    rcases List.mem_cons.1 h with rfl | h
    · omega
    · have := depL_mem h; omega
theorem dep_arg {n : ByteArray} {l : List Tm} {x : Tm} (h : x ∈ l) : depthT x + 1 ≤ depthT (.mk n l) := by
  have := depL_mem h
  simp only [depthT]
  omega
theorem klenL_sum {K : Nat} : ∀ {l : List Tm}, (∀ x ∈ l, klen x + 1 ≤ K) → klenL l ≤ l.length * K
  | [], _ => by simp [klenL]
  | t :: l, h => by
    have h1 := h t (by simp)
    have h2 := klenL_sum (l := l) fun x hx => h x (by simp [hx])
    simp only [klenL, List.length_cons, Nat.succ_mul]
    omega
theorem klen_le {N : Nat} : ∀ (d : Nat) (t : Tm), GN N t → depthT t ≤ d → klen t + 1 ≤ (N + 3) * 20 ^ d
  | 0, .mk n l, _, h => by simp [depthT] at h
  | d + 1, .mk n l, hg, h => by
    have hg' := hg
    unfold GN at hg'
    have h1 := klenL_sum (K := (N + 3) * 20 ^ d) (l := l) fun x hx => klen_le d x (gn_arg hg hx) (by have := dep_arg (n := n) hx; omega)
    have h2 : l.length * ((N + 3) * 20 ^ d) ≤ 19 * ((N + 3) * 20 ^ d) := Nat.mul_le_mul_right _ hg'.2.1
    have hp : 1 ≤ 20 ^ d := Nat.one_le_pow _ _ (by decide)
    have h3 : N + 3 ≤ (N + 3) * 20 ^ d := Nat.le_mul_of_pos_right _ hp
    have h4 : (N + 3) * 20 ^ (d + 1) = 20 * ((N + 3) * 20 ^ d) := by rw [Nat.pow_succ]; rw [← Nat.mul_assoc, Nat.mul_comm]
    rw [h4]
    simp only [klen]
    omega
theorem sizeL_sum {K : Nat} : ∀ {l : List Tm}, (∀ x ∈ l, sizeT x ≤ K) → sizeL l ≤ l.length * K
  | [], _ => by simp [sizeL]
  | t :: l, h => by
    have h1 := h t (by simp)
    have h2 := sizeL_sum (l := l) fun x hx => h x (by simp [hx])
    simp only [sizeL, List.length_cons, Nat.succ_mul]
    omega
theorem size_le {N : Nat} : ∀ (d : Nat) (t : Tm), GN N t → depthT t ≤ d → sizeT t ≤ 20 ^ d
  | 0, .mk n l, _, h => by simp [depthT] at h
  | d + 1, .mk n l, hg, h => by
    have hg' := hg
    unfold GN at hg'
    have h1 := sizeL_sum (K := 20 ^ d) (l := l) fun x hx => size_le d x (gn_arg hg hx) (by have := dep_arg (n := n) hx; omega)
    have h2 : l.length * 20 ^ d ≤ 19 * 20 ^ d := Nat.mul_le_mul_right _ hg'.2.1
    have hp : 1 ≤ 20 ^ d := Nat.one_le_pow _ _ (by decide)
    rw [Nat.pow_succ]
    simp only [sizeT]
    omega
end LigM
end Go.Proofs.YtihbnonbhelbmaaGreatDoor
