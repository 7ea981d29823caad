/- Texts laid together: PriAx. Their own heads stand before each. -/
import Derived.Test.YtfdpelokiljigaaDoorPk17
import Derived.Test.YtfdpelokiljigaaDoorPk18
/- awake of the printer's laws. Condition: the reserved words and the three signs lie as laid. -/
namespace Go.Proofs.YtfdpelokiljigaaDoor
open Go Go.RowKit
namespace PriAx
open Kit LexM TermM TermI TermU TermT ParM ParK ParV ParP ParQ PriM PriB PriC PriD PriK PriN PriAw
theorem rowg_of {α : Type} {K : Kd α} {ok : Nat → Prop} {w : World} {L : List α} {g n : Nat} {cs : Array Value} (hn : L.length = n) (hm : n ≤ maxLen) (h : Has w g cs) (hcs : cs.toList = K.flat L) (hg : ok g) (hin : ∀ x ∈ L, K.inn ok w x) : RowG K ok w L (.slice (some ⟨g, 0, none⟩) n n) := by
  subst hn
  refine ⟨_, _, rfl, Nat.le_refl _, hm, hin, fun _ => ⟨g, 0, rfl, hg, fun i x hx j u hu => ?_⟩⟩
  rw [Nat.zero_add, h.cell, ← Array.getElem?_toList, hcs]
  exact flat_get L i x hx j u hu
theorem slin_row {ok : Nat → Prop} {w : World} {l : List Tm} {g n : Nat} {cs : Array Value} {V : Nat → Value} (hn : l.length = n) (hm : n ≤ maxLen) (h : Has w g cs) (hg : ok g)
    (hc : ∀ i t, l[i]? = some t → cs[i * 2]? = some (.string t.nm) ∧ cs[i * 2 + 1]? = some (V i) ∧ t.nm.size ≤ maxLen) (hin : ∀ i t, l[i]? = some t → SlIn ok w t.args (V i)) : SlIn ok w l (.slice (some ⟨g, 0, none⟩) n n) := by
  subst hn
  refine .mk _ _ l V g 0 (fun _ => ⟨rfl, hg⟩) (fun h => by cases h) (Nat.le_refl _) hm (fun i t ht => ?_) hin
  rw [Nat.zero_add, h.cell, h.cell]
  exact hc i t ht
theorem one_at {α : Type} {P : Nat → α → Prop} {a : α} (h : P 0 a) : ∀ i t, [a][i]? = some t → P i t
  | 0, t, e => by cases e; exact h
  | i + 1, t, e => by simp at e
theorem two_at {α : Type} {P : Nat → α → Prop} {a b : α} (h : P 0 a) (k : P 1 b) : ∀ i t, [a, b][i]? = some t → P i t
  | 0, t, e => by cases e; exact h
  | 1, t, e => by cases e; exact k
  | i + 2, t, e => by simp at e
theorem c_rules0 {B : Nat} {w : World} {v : Value} (hw : TermT.Wd w) (hB : B ≤ w.heap.size) (h : RIn (· < B) w [r0, (tP, [])] v) :
    Calls Tryd.prog 22 #[v] w fun e w' => e = .returned (.tuple #[.string ⟨#[112, 40, 88, 41, 32, 105, 102, 32, 113, 32, 97, 110, 100, 32, 110, 111, 116, 32, 112, 40, 88, 41, 46, 10, 112, 40, 88, 41, 46, 10]⟩, .int .i64 0]) ∧ Below w.heap.size w w' := by
  have := rules_any _ B w v hw hB h
  rw [a0] at this
  exact this
theorem c_rules1 {B : Nat} {w : World} {v : Value} (hw : TermT.Wd w) (hB : B ≤ w.heap.size) (h : RIn (· < B) w [(tX, [])] v) :
    Calls Tryd.prog 22 #[v] w fun e w' => e = .returned (.tuple #[.string ⟨#[]⟩, .int .i64 13]) ∧ Below w.heap.size w w' := by
  have := rules_any _ B w v hw hB h
  rw [a3] at this
  exact this
theorem c_format (w : World) (hw : LexE.Wd w) (hw2 : TermT.Wd w) :
    Calls Tryd.prog 24 #[.string ⟨#[112, 32, 40, 32, 88, 32, 41, 105, 102, 10, 113, 40, 88, 41, 32, 46, 32, 35, 32, 99]⟩] w fun e w' => e = .returned (.tuple #[.string ⟨#[112, 40, 88, 41, 32, 105, 102, 32, 113, 40, 88, 41, 46, 10]⟩, .int .i64 0, .int .i64 0]) ∧ Below w.heap.size w w' := by
  refine (format_any _ w hw hw2 (by decide)).mono ?_
  rintro e w' (⟨l, hO, rfl, hb⟩ | ⟨a, er, hO, rfl, hb⟩)
  · have hO := a1.symm.trans hO
    injection hO with hO _
    subst hO
    rw [a2]
    exact ⟨rfl, hb⟩
  · have hO := a1.symm.trans hO
    cases hO
theorem c_valid {B : Nat} {w : World} {sa sl : Value} (hB : B ≤ w.heap.size) (ha : SlIn (· < B) w [tX] sa) (hl : LIn (· < B) w [(false, tQ), (true, tP)] sl) :
    Calls Tryd.prog 20 #[.agg #[.string ⟨#[112]⟩, sa, sl]] w fun e w' => e = .returned (.bool true) ∧ Below w.heap.size w w' := by
  have := valid_any r0 B w sa sl hB (by decide) ha hl
  rw [a4] at this
  exact this.mono fun _ _ h => ⟨h.1, h.2.1⟩
theorem c_terms {B : Nat} {w : World} {v : Value} (hw : TermT.Wd w) (hB : B ≤ w.heap.size) (h : SlIn (· < B) w [tP, tP] v) :
    Calls Tryd.prog 18 #[v] w fun e w' => e = .returned (.string ⟨#[112, 40, 88, 41, 44, 32, 112, 40, 88, 41]⟩) ∧ Below w.heap.size w w' := by
  have := terms_any [tP, tP] B w v hw hB h (by decide) (by decide) (by rw [a5]; decide)
  rw [a5] at this
  exact this
/-- What lies at hand between the calls. -/
def Aw (b B : Nat) (w : World) : Prop := LexE.Wd w ∧ TermT.Wd w ∧ B ≤ w.heap.size ∧ b + 1 + 1 + 1 < B ∧ Has w (b + 1) #[.string ⟨#[112]⟩, .slice (some ⟨b, 0, none⟩) 1 1] ∧ Has w (b + 1 + 1 + 1) #[.string ⟨#[112]⟩, .slice (some ⟨b, 0, none⟩) 1 1, .slice (some ⟨b + 1 + 1, 0, none⟩) 2 2] ∧
  SlIn (· < B) w [tX] (.slice (some ⟨b, 0, none⟩) 1 1) ∧ LIn (· < B) w [(false, tQ), (true, tP)] (.slice (some ⟨b + 1 + 1, 0, none⟩) 2 2)
theorem Aw.below {b B : Nat} {w w' : World} (h : Aw b B w) (k : Below w.heap.size w w') : Aw b B w' := by
  obtain ⟨h1, h2, h3, h4, h5, h6, h7, h8⟩ := h
  exact ⟨h1.below k h1.1, h2.below k h2.1, Nat.le_trans h3 k.size, h4, h5.step0 k, h6.step0 k, h7.deep k h3, h8.keep fun c o hc => k.cell (p := ⟨c, o, none⟩) (Nat.lt_of_lt_of_le hc h3)⟩
set_option maxRecDepth 100000 in
set_option maxHeartbeats 6400000 in
theorem awake_any (w : World) (hw : LexE.Wd w) (hw2 : TermT.Wd w) : Calls Tryd.prog 12 #[] w fun e w' => e = .returned (.bool true) ∧ Below w.heap.size w w' := by
  have HW := Lib.hid hw
  have HW2 := Lib.hid hw2
  clear hw hw2
  go_enter Tryd.func12, Tryd.ntmps12
  go_wp2_with fail
  obtain ⟨W5, hW5⟩ : ∃ W5, W5 = ((((w.alloc (.cells #[.string ⟨#[88]⟩, .slice none 0 0] 24)).alloc (.cells #[.string ⟨#[112]⟩, .slice (some ⟨w.heap.size, 0, none⟩) 1 1] 24)).alloc (.cells #[.bool false, .string ⟨#[113]⟩, .slice none 0 0, .bool true, .string ⟨#[112]⟩, .slice (some ⟨w.heap.size, 0, none⟩) 1 1] 32)).alloc (.cells #[.string ⟨#[112]⟩, .slice (some ⟨w.heap.size, 0, none⟩) 1 1, .slice (some ⟨w.heap.size + 1 + 1, 0, none⟩) 2 2] 27)).alloc (.cells #[.string ⟨#[112]⟩, .slice (some ⟨w.heap.size, 0, none⟩) 1 1, .slice (some ⟨w.heap.size + 1 + 1, 0, none⟩) 2 2, .string ⟨#[112]⟩, .slice (some ⟨w.heap.size, 0, none⟩) 1 1, .slice none 0 0] 27) := ⟨_, rfl⟩
  rw [← hW5]
  have D5 : Hid (Below w.heap.size w W5) := Lib.hid (by rw [hW5]; exact (((((Below.refl _ _).alloc (Nat.le_refl _) _).alloc (by simp) _).alloc (by simp; omega) _).alloc (by simp; omega) _).alloc (by simp; omega) _)
  have Z5 : W5.heap.size = w.heap.size + 1 + 1 + 1 + 1 + 1 := by rw [hW5]; simp
  have H0 : Has W5 w.heap.size #[.string ⟨#[88]⟩, .slice none 0 0] := by rw [hW5]; exact ((((Has.new w _ _).alloc _).alloc _).alloc _).alloc _
  have H1 : Has W5 (w.heap.size + 1) #[.string ⟨#[112]⟩, .slice (some ⟨w.heap.size, 0, none⟩) 1 1] := by rw [hW5]; exact (((Has.new1 w _ _ _).alloc _).alloc _).alloc _
  have H2 : Has W5 (w.heap.size + 1 + 1) #[.bool false, .string ⟨#[113]⟩, .slice none 0 0, .bool true, .string ⟨#[112]⟩, .slice (some ⟨w.heap.size, 0, none⟩) 1 1] := by rw [hW5]; exact ((Has.new2 w _ _ _ _).alloc _).alloc _
  have H3 : Has W5 (w.heap.size + 1 + 1 + 1) #[.string ⟨#[112]⟩, .slice (some ⟨w.heap.size, 0, none⟩) 1 1, .slice (some ⟨w.heap.size + 1 + 1, 0, none⟩) 2 2] := by rw [hW5]; exact (Has.new3 w _ _ _ _ _).alloc _
  have H4 : Has W5 (w.heap.size + 1 + 1 + 1 + 1) #[.string ⟨#[112]⟩, .slice (some ⟨w.heap.size, 0, none⟩) 1 1, .slice (some ⟨w.heap.size + 1 + 1, 0, none⟩) 2 2, .string ⟨#[112]⟩, .slice (some ⟨w.heap.size, 0, none⟩) 1 1, .slice none 0 0] := by
    rw [hW5]
    have := Has.new3 (w.alloc (.cells #[.string ⟨#[88]⟩, .slice none 0 0] 24)) (.cells #[.string ⟨#[112]⟩, .slice (some ⟨w.heap.size, 0, none⟩) 1 1] 24) (.cells #[.bool false, .string ⟨#[113]⟩, .slice none 0 0, .bool true, .string ⟨#[112]⟩, .slice (some ⟨w.heap.size, 0, none⟩) 1 1] 32) (.cells #[.string ⟨#[112]⟩, .slice (some ⟨w.heap.size, 0, none⟩) 1 1, .slice (some ⟨w.heap.size + 1 + 1, 0, none⟩) 2 2] 27) 27 #[.string ⟨#[112]⟩, .slice (some ⟨w.heap.size, 0, none⟩) 1 1, .slice (some ⟨w.heap.size + 1 + 1, 0, none⟩) 2 2, .string ⟨#[112]⟩, .slice (some ⟨w.heap.size, 0, none⟩) 1 1, .slice none 0 0]
    rw [World.size_alloc] at this
    exact this
  have S0 : SlIn (· < w.heap.size + 1 + 1 + 1 + 1 + 1) W5 [tX] (.slice (some ⟨w.heap.size, 0, none⟩) 1 1) := slin_row (V := fun _ => .slice none 0 0) rfl (by decide) H0 (by omega) (one_at ⟨rfl, rfl, by decide⟩) (one_at (SlIn.none _ _))
  have L0 : LIn (· < w.heap.size + 1 + 1 + 1 + 1 + 1) W5 [(false, tQ), (true, tP)] (.slice (some ⟨w.heap.size + 1 + 1, 0, none⟩) 2 2) :=
    ⟨[((false, tQ), .slice none 0 0), ((true, tP), .slice (some ⟨w.heap.size, 0, none⟩) 1 1)], rfl, rowg_of rfl (by decide) H2 rfl (by omega) (fun x hx => by
      rcases List.mem_cons.1 hx with rfl | hx
      · exact ⟨SlIn.none _ _, by decide⟩
      · obtain rfl := List.mem_singleton.1 hx
        exact ⟨S0, by show (⟨#[112]⟩ : ByteArray).size ≤ maxLen; decide⟩)⟩
  have R0 : RIn (· < w.heap.size + 1 + 1 + 1 + 1 + 1) W5 [r0, (tP, [])] (.slice (some ⟨w.heap.size + 1 + 1 + 1 + 1, 0, none⟩) 2 2) :=
    ⟨[(r0, .slice (some ⟨w.heap.size, 0, none⟩) 1 1, .slice (some ⟨w.heap.size + 1 + 1, 0, none⟩) 2 2), ((tP, []), .slice (some ⟨w.heap.size, 0, none⟩) 1 1, .slice none 0 0)], rfl, rowg_of rfl (by decide) H4 rfl (by omega) (fun x hx => by
      rcases List.mem_cons.1 hx with rfl | hx
      · exact ⟨S0, by show (⟨#[112]⟩ : ByteArray).size ≤ maxLen; decide, L0⟩
      · obtain rfl := List.mem_singleton.1 hx
        exact ⟨S0, by show (⟨#[112]⟩ : ByteArray).size ≤ maxLen; decide, LIn.nil _ _⟩)⟩
  have AW : Hid (Aw w.heap.size (w.heap.size + 1 + 1 + 1 + 1 + 1) W5) := Lib.hid ⟨HW.out.below D5.out HW.out.1, HW2.out.below D5.out HW2.out.1, by omega, by omega, H1, H3, S0, L0⟩
  have C0 := Lib.hid (c_rules0 AW.out.2.1 (Nat.le_of_eq Z5.symm) R0)
  generalize w.heap.size + 1 + 1 + 1 + 1 + 1 = B at *
  clear hW5 H0 H1 H2 H3 H4 S0 L0 R0 Z5 HW HW2
  refine C0.out.mono ?_
  rintro e w6 ⟨rfl, k⟩
  have A6 := Lib.hid (AW.out.below k)
  have D6 := Lib.hid (next0 D5.out k)
  clear k AW D5 C0
  have C1 := Lib.hid (c_format w6 A6.out.1 A6.out.2.1)
  go_wp2_with fail
  refine C1.out.mono ?_
  rintro e w7 ⟨rfl, k⟩
  have A7 := Lib.hid (A6.out.below k)
  have D7 := Lib.hid (next0 D6.out k)
  clear k A6 D6 C1
  go_wp2_with fail
  obtain ⟨W8, hW8⟩ : ∃ W8, W8 = w7.alloc (.cells #[.string ⟨#[88]⟩, .slice none 0 0, .slice none 0 0] 27) := ⟨_, rfl⟩
  rw [← hW8]
  have k8 : Below w7.heap.size w7 W8 := by rw [hW8]; exact below_alloc _ _
  have Z8 : W8.heap.size = w7.heap.size + 1 := by rw [hW8]; simp
  have H8 : Has W8 w7.heap.size #[.string ⟨#[88]⟩, .slice none 0 0, .slice none 0 0] := by rw [hW8]; exact Has.new w7 _ _
  have R8 : RIn (· < W8.heap.size) W8 [(tX, [])] (.slice (some ⟨w7.heap.size, 0, none⟩) 1 1) :=
    ⟨[((tX, []), .slice none 0 0, .slice none 0 0)], rfl, rowg_of rfl (by decide) H8 rfl (by omega) (fun x hx => by
      obtain rfl := List.mem_singleton.1 hx
      exact ⟨SlIn.none _ _, by decide, LIn.nil _ _⟩)⟩
  have A8 := Lib.hid (A7.out.below k8)
  have D8 := Lib.hid (next0 D7.out k8)
  have C2 := Lib.hid (c_rules1 A8.out.2.1 (Nat.le_refl _) R8)
  clear hW8 k8 Z8 H8 R8 A7 D7
  refine C2.out.mono ?_
  rintro e w9 ⟨rfl, k⟩
  have A9 := Lib.hid (A8.out.below k)
  have D9 := Lib.hid (next0 D8.out k)
  clear k A8 D8 C2
  obtain ⟨x1, x2, x3⟩ := PriA.three A9.out.2.2.2.2.2.1
  have C3 := Lib.hid (c_valid A9.out.2.2.1 A9.out.2.2.2.2.2.2.1 A9.out.2.2.2.2.2.2.2)
  go_wp2_with fail
  refine C3.out.mono ?_
  rintro e w10 ⟨rfl, k⟩
  have A10 := Lib.hid (A9.out.below k)
  have D10 := Lib.hid (next0 D9.out k)
  clear k A9 D9 C3 x1 x2 x3
  obtain ⟨x1, x2, _, _, _⟩ := A10.out.2.2.2.2.1.two
  go_wp2_with fail
  obtain ⟨W11, hW11⟩ : ∃ W11, W11 = w10.alloc (.cells #[.string ⟨#[112]⟩, .slice (some ⟨w.heap.size, 0, none⟩) 1 1, .string ⟨#[112]⟩, .slice (some ⟨w.heap.size, 0, none⟩) 1 1] 24) := ⟨_, rfl⟩
  rw [← hW11]
  have k11 : Below w10.heap.size w10 W11 := by rw [hW11]; exact below_alloc _ _
  have Z11 : W11.heap.size = w10.heap.size + 1 := by rw [hW11]; simp
  have H11 : Has W11 w10.heap.size #[.string ⟨#[112]⟩, .slice (some ⟨w.heap.size, 0, none⟩) 1 1, .string ⟨#[112]⟩, .slice (some ⟨w.heap.size, 0, none⟩) 1 1] := by rw [hW11]; exact Has.new w10 _ _
  have A11 := Lib.hid (A10.out.below k11)
  have D11 := Lib.hid (next0 D10.out k11)
  have S11 : SlIn (· < W11.heap.size) W11 [tX] (.slice (some ⟨w.heap.size, 0, none⟩) 1 1) := A11.out.2.2.2.2.2.2.1.weaken (fun b hb => Nat.lt_of_lt_of_le hb A11.out.2.2.1)
  have T11 : SlIn (· < W11.heap.size) W11 [tP, tP] (.slice (some ⟨w10.heap.size, 0, none⟩) 2 2) := slin_row (V := fun _ => .slice (some ⟨w.heap.size, 0, none⟩) 1 1) rfl (by decide) H11 (by omega) (two_at ⟨rfl, rfl, by decide⟩ ⟨rfl, rfl, by decide⟩) (two_at S11 S11)
  have C4 := Lib.hid (c_terms A11.out.2.1 (Nat.le_refl _) T11)
  clear hW11 k11 Z11 H11 S11 T11 A10 D10 x1 x2
  refine C4.out.mono ?_
  rintro e w12 ⟨rfl, k⟩
  have D12 := Lib.hid (next0 D11.out k)
  clear k A11 D11 C4
  go_wp2_with fail
  go_ret
  exact ⟨rfl, D12.out⟩
end PriAx
end Go.Proofs.YtfdpelokiljigaaDoor
