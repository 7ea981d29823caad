/- The world kept through FractionOrder's two drawn statements: three boxes. No conditions. -/
import Derived.Test.YtandcmlmklpckaaDoorKit
import Derived.Test.YtandcmlmklpckaaDoorFracF
import Derived.Test.YtandcmlmklpckaaDoorFracO2
import Derived.Test.YtandcmlmklpckaaDoorFracW
import Derived.Deep.RegionHeld3
namespace Go.Proofs.YtandcmlmklpckaaDoor
open Go Go.RowKit
namespace FracL4
open Kit FracM FracN FracP
open FracB (fr)
open FracT (Tab tab_below)

def K3 (w : World) (a b c d e f : Int) (w' : World) : Prop := Below w.heap.size w w' ∧ Tab w' ∧ Has w' w.heap.size #[.int .i64 a, .int .i64 b] ∧ Has w' (w.heap.size + 1) #[.int .i64 c, .int .i64 d] ∧ Has w' (w.heap.size + 1 + 1) #[.int .i64 e, .int .i64 f]
abbrev S3 (w : World) (a b c d e f : Int) (w' : World) : Prop :=
  w'.cell? ⟨w.heap.size, 0, none⟩ = some (.int .i64 a) ∧ w'.cell? ⟨w.heap.size, 1, none⟩ = some (.int .i64 b) ∧ w'.cell? ⟨w.heap.size + 1, 0, none⟩ = some (.int .i64 c) ∧ w'.cell? ⟨w.heap.size + 1, 1, none⟩ = some (.int .i64 d) ∧ w'.cell? ⟨w.heap.size + 1 + 1, 0, none⟩ = some (.int .i64 e) ∧ w'.cell? ⟨w.heap.size + 1 + 1, 1, none⟩ = some (.int .i64 f) ∧ Hid (K3 w a b c d e f w')
theorem s3_of {w w' : World} {a b c d e f : Int} (h : K3 w a b c d e f w') : S3 w a b c d e f w' :=
  ⟨h.2.2.1.cell 0, h.2.2.1.cell 1, h.2.2.2.1.cell 0, h.2.2.2.1.cell 1, h.2.2.2.2.cell 0, h.2.2.2.2.cell 1, h⟩
theorem lift3 {P : Program} {g : FuncId} {args : Array Value} {v : Value} {w w1 : World} {a b c d e f : Int} (h : S3 w a b c d e f w1)
    (hc : Tab w1 → Calls P g args w1 fun e w' => e = .returned v ∧ Below w1.heap.size w1 w') : Calls P g args w1 fun x w' => x = .returned v ∧ S3 w a b c d e f w' := by
  obtain ⟨k1, k2, k3, k4, k5⟩ := (Hid.out h.2.2.2.2.2.2)
  exact (hc k2).mono fun _ _ ⟨he, hb⟩ => ⟨he, s3_of ⟨next0 k1 hb, tab_below k2 hb, k3.step0 hb, k4.step0 hb, k5.step0 hb⟩⟩
theorem in64 {n d : Int} (h : vld n d = true) : (-9223372036854775808 ≤ n ∧ n ≤ 9223372036854775807) ∧ -9223372036854775808 ≤ d ∧ d ≤ 9223372036854775807 := by have := vld_in h; omega
theorem sub_at {a b c d : Int} (h1 : vld a b = true) (h2 : vld c d = true) (w : World) : Calls Tryd.prog 55 #[.agg #[.int .i64 a, .int .i64 b], .agg #[.int .i64 c, .int .i64 d]] w fun e w' => e = .returned (fr (subF a b c d)) ∧ Below w.heap.size w w' :=
  FracF.sub_any a b c d w (in64 h1).1.1 (in64 h1).1.2 (in64 h1).2.1 (in64 h1).2.2 (in64 h2).1.1 (in64 h2).1.2 (in64 h2).2.1 (in64 h2).2.2
theorem valid_at {a b : Int} (h : vld a b = true) (w : World) : Calls Tryd.prog 52 #[.agg #[.int .i64 a, .int .i64 b]] w fun e w' => e = .returned (.bool true) ∧ Below w.heap.size w w' := by
  have q := FracE.valid_any a b w (in64 h).1.1 (in64 h).1.2 (in64 h).2.1 (in64 h).2.2
  rwa [h] at q
/-- The sign of a difference. -/
theorem sub_sign {a b c d : Int} (h1 : vld a b = true) (h2 : vld c d = true) (h : (subF c d a b).2.2 = 0) : (0 < (subF c d a b).1 ↔ a * d < c * b) := by
  rw [subF_ok h2 h1] at h ⊢
  have hv := (mk_vld h).1
  have hx := mk_cross h
  have hy := (vld_in hv).2.2
  have hb := (vld_in h1).2.2
  have hd := (vld_in h2).2.2
  have hbd : 0 < d * b := Int.mul_pos (by omega) (by omega)
  generalize (mk (c * b - a * d) (d * b)).1 = x at hx ⊢
  generalize (mk (c * b - a * d) (d * b)).2.1 = y at hx hy
  constructor
  · intro h0
    have h3 : 0 < x * (d * b) := Int.mul_pos h0 hbd
    rw [hx] at h3
    have h4 : 0 < c * b - a * d := by
      rcases (show 0 < c * b - a * d ∨ c * b - a * d ≤ 0 by omega) with h5 | h5
      · exact h5
      · have h6 := Int.mul_le_mul_of_nonneg_right h5 (show 0 ≤ y by omega)
        omega
    omega
  · intro h0
    have h3 : 0 < (c * b - a * d) * y := Int.mul_pos (by omega) (by omega)
    rw [← hx] at h3
    rcases (show 0 < x ∨ x ≤ 0 by omega) with h5 | h5
    · exact h5
    · have h6 := Int.mul_le_mul_of_nonneg_right h5 (show 0 ≤ d * b by omega)
      omega
end FracL4
end Go.Proofs.YtandcmlmklpckaaDoor
