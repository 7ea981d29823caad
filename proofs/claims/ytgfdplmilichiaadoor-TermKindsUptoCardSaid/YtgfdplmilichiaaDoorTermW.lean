/- The examples that every law of layer 1 runs (awake): they hold, where the variable nameEnds is as laid. -/
import Derived.Test.YtgfdplmilichiaaDoorTermH
namespace Go.Proofs.YtgfdplmilichiaaDoor
open Go Go.RowKit
namespace TermW
open LexM TermM TermI Kit TermN TermU TermL TermE TermF TermG TermV TermT TermH TermB TermC TermD
def sb (l : List UInt8) : ByteArray := ⟨l.toArray⟩
def leafT (l : List UInt8) : Tm := .mk (sb l) []
/-- f(X, g(1)). -/
def fT : Tm := .mk (sb [102]) [leafT [88], .mk (sb [103]) [leafT [49]]]
theorem e_text : textT fT = [102, 40, 88, 44, 103, 40, 49, 41, 41] := by decide +kernel
theorem e_depth : depthT fT = 3 := by decide +kernel
theorem e_size : sizeT fT = 4 := by decide +kernel
theorem e_valid : validT false 4 fT = true := by decide +kernel
theorem e_ground : groundB fT = false := by decide +kernel
theorem e_num : numV [48, 48, 55] = 0 ∧ isNum [48, 48, 55] = false := by decide +kernel
theorem e_if : nameL [105, 102] = false := by decide +kernel
theorem e_a1 : nameL [97, 45, 49] = true := by decide +kernel
theorem e_X : varL [88] = true := by decide +kernel
theorem e_12 : cmpT (leafT [50]) (leafT [49, 48]) < 0 := by decide +kernel
theorem e_13 : cmpT (leafT [50]) (leafT [98]) < 0 := by decide +kernel
theorem e_23 : cmpT (leafT [49, 48]) (leafT [98]) < 0 := by decide +kernel
theorem e_asc : Asc [leafT [50], leafT [49, 48], leafT [98]] := by
  intro i j x y hij hx hy
  have hj := (List.getElem?_eq_some_iff.1 hy).1
  simp at hj
  obtain ⟨rfl, rfl⟩ | ⟨rfl, rfl⟩ | ⟨rfl, rfl⟩ : (i = 0 ∧ j = 1) ∨ (i = 0 ∧ j = 2) ∨ (i = 1 ∧ j = 2) := by omega
  · simp at hx hy; subst hx hy; exact e_12
  · simp at hx hy; subst hx hy; exact e_13
  · simp at hx hy; subst hx hy; exact e_23
/-- What is at hand between the examples' calls: the variable, the term f(X, g(1)) at block tb, the sorted list at block lb. -/
def Aw (B tb ab : Nat) (w : World) : Prop := Wd w ∧ B ≤ w.heap.size ∧ tb < B ∧ Has w tb #[.string (sb [102]), .slice (some ⟨ab, 0, none⟩) 2 2] ∧ SlIn (· < B) w fT.args (.slice (some ⟨ab, 0, none⟩) 2 2)
def Al (B lb lo : Nat) (w : World) : Prop := lb < B ∧ B ≤ w.heap.size ∧ w.cell? ⟨lb, lo, none⟩ = some (.string ⟨#[50]⟩) ∧ w.cell? ⟨lb, lo + 4, none⟩ = some (.string ⟨#[98]⟩)
theorem Aw.below {B tb ab : Nat} {w w' : World} (h : Aw B tb ab w) (k : Below w.heap.size w w') : Aw B tb ab w' :=
  ⟨h.1.below k h.1.1, Nat.le_trans h.2.1 k.size, h.2.2.1, h.2.2.2.1.step0 k, h.2.2.2.2.deep k h.2.1⟩
theorem Al.below {B lb lo : Nat} {w w' : World} (h : Al B lb lo w) (k : Below w.heap.size w w') : Al B lb lo w' :=
  ⟨h.1, Nat.le_trans h.2.1 k.size, (k.cell (p := ⟨lb, lo, none⟩) (Nat.lt_of_lt_of_le h.1 h.2.1)).trans h.2.2.1, (k.cell (p := ⟨lb, lo + 4, none⟩) (Nat.lt_of_lt_of_le h.1 h.2.1)).trans h.2.2.2⟩
section
variable {B tb ab : Nat} {w : World}
theorem c_text (h : Aw B tb ab w) : Calls Tryd.prog 26 #[.agg #[.string (sb [102]), .slice (some ⟨ab, 0, none⟩) 2 2]] w fun e w' => e = .returned (.string ⟨#[102, 40, 88, 44, 103, 40, 49, 41, 41]⟩) ∧ Below w.heap.size w w' := by
  have := text_any fT B w _ h.1 h.2.1 h.2.2.2.2 (by rw [e_text]; decide)
  rw [e_text] at this
  exact this
theorem c_depth (h : Aw B tb ab w) : Calls Tryd.prog 22 #[.agg #[.string (sb [102]), .slice (some ⟨ab, 0, none⟩) 2 2]] w fun e w' => e = .returned (.int .i64 3) ∧ Below w.heap.size w w' := by
  have := depth_any fT B w _ h.2.1 h.2.2.2.2 (by rw [e_size]; decide)
  rw [e_depth] at this
  exact this.mono fun _ _ ⟨a, b⟩ => ⟨a, b.1⟩
theorem c_size (h : Aw B tb ab w) : Calls Tryd.prog 24 #[.agg #[.string (sb [102]), .slice (some ⟨ab, 0, none⟩) 2 2]] w fun e w' => e = .returned (.int .i64 4) ∧ Below w.heap.size w w' := by
  have := size_any fT B w _ h.2.1 h.2.2.2.2 (by rw [e_size]; decide)
  rw [e_size] at this
  exact this.mono fun _ _ ⟨a, b⟩ => ⟨a, b.1⟩
theorem c_valid (h : Aw B tb ab w) : Calls Tryd.prog 18 #[.agg #[.string (sb [102]), .slice (some ⟨ab, 0, none⟩) 2 2]] w fun e w' => e = .returned (.bool true) ∧ Below w.heap.size w w' := by
  have := valid_any fT B w _ h.2.1 (by decide) h.2.2.2.2
  rw [e_valid] at this
  exact this.mono fun _ _ ⟨a, b⟩ => ⟨a, b.1⟩
theorem c_ground (h : Aw B tb ab w) : Calls Tryd.prog 20 #[.agg #[.string (sb [102]), .slice (some ⟨ab, 0, none⟩) 2 2]] w fun e w' => e = .returned (.bool false) ∧ Below w.heap.size w w' := by
  have := ground_any fT B w _ h.2.1 (by decide) h.2.2.2.2 (by rw [e_size]; decide)
  rw [e_ground] at this
  exact this
end
theorem c_num (w : World) : Calls Tryd.prog 11 #[.string ⟨#[48, 48, 55]⟩] w fun e w' => e = .returned (.tuple #[.int .i64 0, .bool false]) ∧ w = w' := by
  have := num_any ⟨#[48, 48, 55]⟩ w (by decide)
  have e : (⟨#[48, 48, 55]⟩ : ByteArray).data.toList = [48, 48, 55] := rfl
  rwa [e, e_num.1, e_num.2] at this
theorem c_if (w : World) : Calls Tryd.prog 13 #[.string ⟨#[105, 102]⟩] w fun e w' => e = .returned (.bool false) ∧ w = w' := by
  have := name_any ⟨#[105, 102]⟩ w (by decide)
  have e : (⟨#[105, 102]⟩ : ByteArray).data.toList = [105, 102] := rfl
  rwa [e, e_if] at this
theorem c_a1 (w : World) : Calls Tryd.prog 13 #[.string ⟨#[97, 45, 49]⟩] w fun e w' => e = .returned (.bool true) ∧ w = w' := by
  have := name_any ⟨#[97, 45, 49]⟩ w (by decide)
  have e : (⟨#[97, 45, 49]⟩ : ByteArray).data.toList = [97, 45, 49] := rfl
  rwa [e, e_a1] at this
theorem c_X (w : World) : Calls Tryd.prog 15 #[.string ⟨#[88]⟩] w fun e w' => e = .returned (.bool true) ∧ w = w' := by
  have := var_any ⟨#[88]⟩ w (by decide)
  have e : (⟨#[88]⟩ : ByteArray).data.toList = [88] := rfl
  rwa [e, e_X] at this
/-- The list b, 10, b, 2, and what Sort makes of it. -/
def lst : List Tm := [leafT [98], leafT [49, 48], leafT [98], leafT [50]]
def After (w : World) (e : Ending) (w' : World) : Prop := ∃ lb lo c : Nat, e = .returned (.slice (some ⟨lb, lo, none⟩) 3 c) ∧ Al w'.heap.size lb lo w' ∧ Below w.heap.size w w'
theorem after_of {w w' : World} {e : Ending} (h : SortedNew lst w e w') : After w e w' := by
  obtain ⟨v, l', rfl, hA, hM, hS, hd⟩ := h
  have hl : l' = [leafT [50], leafT [49, 48], leafT [98]] := asc_uniq _ _ hA e_asc (fun t => by
    rw [hM t]
    simp only [lst, List.mem_cons, List.not_mem_nil, or_false]
    constructor
    · rintro (h | h | h | h) <;> simp [h]
    · rintro (h | h | h) <;> simp [h])
  subst hl
  obtain ⟨p, c, rfl, _, _, _, hR⟩ := (hS.weaken (ok' := (· < w'.heap.size)) (fun b hb => hb.2)).row
  obtain ⟨t0, b0, o0, q0, d0, h1, h2, h3, h4, _⟩ := hR 0 (by simp)
  obtain ⟨t2, b2, o2, q2, d2, k1, k2, k3, k4, _⟩ := hR 2 (by simp)
  rw [h2] at k2
  injection k2 with k2
  injection k2 with e1 e2
  subst e1 e2
  simp at h1 k1
  subst h1 k1 h2
  exact ⟨b0, o0, c, rfl, ⟨h3, Nat.le_refl _, by rw [Nat.zero_mul, Nat.add_zero] at h4; exact h4, k4⟩, hd⟩
theorem c_sort (B : Nat) (w : World) (v : Value) (hB : B ≤ w.heap.size) (h : SlIn (· < B) w lst v) : Calls Tryd.prog 39 #[v] w (After w) :=
  (sort_new lst B w v hB h (by decide +kernel)).mono fun _ _ h => after_of h
theorem leafs {ok : Nat → Prop} {w : World} (l : List UInt8) (hl : l.length ≤ 1000) : SlIn ok w (leafT l).args (.slice none 0 0) ∧ (leafT l).nm.size ≤ maxLen :=
  ⟨SlIn.none _ _, by show l.toArray.size ≤ maxLen; unfold maxLen; simp; omega⟩
set_option maxRecDepth 100000 in
set_option maxHeartbeats 1000000 in
theorem awake_any (w : World) (hw : Wd w) : Calls Tryd.prog 10 #[] w fun e w' => e = .returned (.bool true) ∧ Below w.heap.size w w' := by
  have HW := Lib.hid hw
  clear hw
  go_enter Tryd.func10, Tryd.ntmps10
  go_wp2_with fail
  obtain ⟨W4, hW4⟩ : ∃ W4, W4 = ((((w.alloc (.cells #[.string ⟨#[49]⟩, .slice none 0 0] 28)).alloc (.cells #[.string ⟨#[88]⟩, .slice none 0 0, .string ⟨#[103]⟩, .slice (some ⟨w.heap.size, 0, none⟩) 1 1] 28)).alloc (.cells #[.string ⟨#[102]⟩, .slice (some ⟨w.heap.size + 1, 0, none⟩) 2 2] 28)).alloc (.cells #[.string ⟨#[98]⟩, .slice none 0 0, .string ⟨#[49, 48]⟩, .slice none 0 0, .string ⟨#[98]⟩, .slice none 0 0, .string ⟨#[50]⟩, .slice none 0 0] 28)) := ⟨_, rfl⟩
  rw [← hW4]
  have D4 : Hid (Below w.heap.size w W4) := Lib.hid (by rw [hW4]; exact ((((Below.refl _ _).alloc (Nat.le_refl _) _).alloc (by simp) _).alloc (by simp; omega) _).alloc (by simp; omega) _)
  have Z4 : W4.heap.size = w.heap.size + 4 := by rw [hW4]; simp
  have H0 : Has W4 w.heap.size #[.string (sb [49]), .slice none 0 0] := by rw [hW4]; exact (((Has.new w _ _).alloc _).alloc _).alloc _
  have H1 : Has W4 (w.heap.size + 1) #[.string (sb [88]), .slice none 0 0, .string (sb [103]), .slice (some ⟨w.heap.size, 0, none⟩) 1 1] := by rw [hW4]; exact ((Has.new1 w _ _ _).alloc _).alloc _
  have H2 : Has W4 (w.heap.size + 1 + 1) #[.string (sb [102]), .slice (some ⟨w.heap.size + 1, 0, none⟩) 2 2] := by rw [hW4]; exact (Has.new2 w _ _ _ _).alloc _
  have H3 : Has W4 (w.heap.size + 1 + 1 + 1) #[.string (sb [98]), .slice none 0 0, .string (sb [49, 48]), .slice none 0 0, .string (sb [98]), .slice none 0 0, .string (sb [50]), .slice none 0 0] := by rw [hW4]; exact Has.new3 w _ _ _ _ _
  have S1 : SlIn (· < w.heap.size + 1) W4 [leafT [49]] (.slice (some ⟨w.heap.size, 0, none⟩) 1 1) := slin_of (B := 0) (L := [(leafT [49], .slice none 0 0)]) (by omega) (by omega) (by decide) (by decide) H0 (fun x hx => by obtain rfl := List.mem_singleton.1 hx; exact leafs _ (by decide))
  have S2 : SlIn (· < w.heap.size + 1 + 1) W4 fT.args (.slice (some ⟨w.heap.size + 1, 0, none⟩) 2 2) := slin_of (B := w.heap.size + 1) (L := [(leafT [88], .slice none 0 0), (.mk (sb [103]) [leafT [49]], .slice (some ⟨w.heap.size, 0, none⟩) 1 1)]) (by omega) (by omega) (Nat.le_refl 2) (by decide) H1 (fun x hx => by
    rcases List.mem_cons.1 hx with rfl | hx
    · exact leafs _ (by decide)
    · obtain rfl := List.mem_singleton.1 hx
      exact ⟨S1, by show (sb [103]).size ≤ maxLen; decide⟩)
  have S3 : SlIn (· < w.heap.size + 4) W4 lst (.slice (some ⟨w.heap.size + 1 + 1 + 1, 0, none⟩) 4 4) := slin_of (B := 0) (L := [(leafT [98], .slice none 0 0), (leafT [49, 48], .slice none 0 0), (leafT [98], .slice none 0 0), (leafT [50], .slice none 0 0)]) (by omega) (by omega) (by decide) (by decide) H3 (fun x hx => by
    simp only [List.mem_cons, List.not_mem_nil, or_false] at hx
    rcases hx with rfl | rfl | rfl | rfl <;> exact leafs _ (by decide))
  have AW : Hid (Aw (w.heap.size + 1 + 1 + 1) (w.heap.size + 1 + 1) (w.heap.size + 1) W4) := Lib.hid ⟨HW.out.below D4.out HW.out.1, by omega, by omega, H2, S2.weaken (fun b hb => by omega)⟩
  have CS := Lib.hid (c_sort (w.heap.size + 4) W4 _ (by omega) S3)
  clear hW4 H0 H1 H2 H3 S1 S2 S3 Z4
  refine CS.out.mono ?_
  rintro e w5 ⟨lb, lo, c, rfl, hal, hd⟩
  have A5 := Lib.hid (AW.out.below hd)
  have L5 := Lib.hid hal
  have D5 := Lib.hid (next0 D4.out hd)
  clear hal hd AW CS D4
  obtain ⟨x1, x2, _, _, _⟩ := A5.out.2.2.2.1.two
  go_wp2_with (go_at_call 11; refine (c_num _).mono ?_; rintro e w' ⟨rfl, rfl⟩)
  refine (c_text A5.out).mono ?_
  rintro e w6 ⟨rfl, k⟩
  have A6 := Lib.hid (A5.out.below k)
  have L6 := Lib.hid (L5.out.below k)
  have D6 := Lib.hid (next0 D5.out k)
  clear k A5 L5 D5 x1 x2
  obtain ⟨x1, x2, _, _, _⟩ := A6.out.2.2.2.1.two
  go_wp2_with fail
  refine (c_depth A6.out).mono ?_
  rintro e w7 ⟨rfl, k⟩
  have A7 := Lib.hid (A6.out.below k)
  have L7 := Lib.hid (L6.out.below k)
  have D7 := Lib.hid (next0 D6.out k)
  clear k A6 L6 D6 x1 x2
  obtain ⟨x1, x2, _, _, _⟩ := A7.out.2.2.2.1.two
  go_wp2_with fail
  refine (c_size A7.out).mono ?_
  rintro e w8 ⟨rfl, k⟩
  have A8 := Lib.hid (A7.out.below k)
  have L8 := Lib.hid (L7.out.below k)
  have D8 := Lib.hid (next0 D7.out k)
  clear k A7 L7 D7 x1 x2
  obtain ⟨x1, x2, _, _, _⟩ := A8.out.2.2.2.1.two
  obtain ⟨_, _, y1, y2⟩ := L8.out
  go_wp2_with (first | (go_at_call 13; (with_reducible refine (c_if _).mono ?_); rintro e w' ⟨rfl, rfl⟩) | (go_at_call 13; (with_reducible refine (c_a1 _).mono ?_); rintro e w' ⟨rfl, rfl⟩))
  refine (c_valid A8.out).mono ?_
  rintro e w9 ⟨rfl, k⟩
  have A9 := Lib.hid (A8.out.below k)
  have D9 := Lib.hid (next0 D8.out k)
  clear k A8 L8 D8 x1 x2 y1 y2
  obtain ⟨x1, x2, _, _, _⟩ := A9.out.2.2.2.1.two
  go_wp2_with fail
  refine (c_ground A9.out).mono ?_
  rintro e w10 ⟨rfl, k⟩
  have D10 := Lib.hid (next0 D9.out k)
  clear k A9 D9 x1 x2
  go_wp2_with (go_at_call 15; refine (c_X _).mono ?_; rintro e w' ⟨rfl, rfl⟩)
  go_ret
  exact ⟨rfl, D10.out⟩
end TermW
end Go.Proofs.YtgfdplmilichiaaDoor
