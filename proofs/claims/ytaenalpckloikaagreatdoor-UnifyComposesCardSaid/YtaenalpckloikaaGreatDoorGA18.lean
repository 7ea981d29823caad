/- Texts laid together: UnmJ; UnmK; UnmL. Their own heads stand before each. -/
import Derived.Test.YtaenalpckloikaaGreatDoorGA17
import Derived.Test.YtaenalpckloikaaGreatDoorGA8
import Derived.Test.YtaenalpckloikaaGreatDoorGA12
import Derived.Test.YtaenalpckloikaaGreatDoorGA11
import Derived.Deep.RegionHeld3
import Derived.Deep.RegionLaw
import Derived.Deep.DeepCutAuto
/- The chapter's examples, plain. No conditions. -/
namespace Go.Proofs.YtaenalpckloikaaGreatDoor
open Go Go.RowKit
namespace UnmJ
open LexM TermM TermI Kit TermN TermU TermL TermE TermF UniK UniM UniA UniC UniD UniE UniO TermT UnmA UnmE UnmF UnmH UnmI
abbrev tA : Tm := .mk ⟨#[97]⟩ []
abbrev tX : Tm := .mk ⟨#[88]⟩ []
abbrev tY : Tm := .mk ⟨#[89]⟩ []
abbrev p2 (n : ByteArray) (s t : Tm) : Tm := .mk n [s, t]
abbrev nP : ByteArray := ⟨#[112]⟩
abbrev both : List Bd := [(⟨#[88]⟩, tA), (⟨#[89]⟩, tA)]
theorem sort2 : sortB [⟨#[88]⟩, ⟨#[89]⟩] = [⟨#[88]⟩, ⟨#[89]⟩] := by
  unfold sortB
  rw [List.mergeSort_of_pairwise (by simp [lists]; decide)]
  rfl
theorem sort1 : sortB [⟨#[88]⟩] = [⟨#[88]⟩] := by
  unfold sortB
  rw [List.mergeSort_of_pairwise (by simp [lists])]
  rfl
theorem v1 : varsOf (leavesL [p2 nP tX tY, p2 nP tY tA]) = [⟨#[88]⟩, ⟨#[89]⟩] := by kernel_rfl
theorem v2 : varsOf (leavesL [tX, p2 ⟨#[102]⟩ tX tA]) = [⟨#[88]⟩] := by kernel_rfl
theorem v3 : varsOf (leavesL [p2 nP tX tY]) = [⟨#[88]⟩, ⟨#[89]⟩] := by kernel_rfl
theorem u1 : unifyP 9 (p2 nP tX tY) (p2 nP tY tA) = some (some both) := by
  unfold unifyP
  rw [v1, sort2]
  kernel_rfl
theorem u2 : unifyP 9 tX (p2 ⟨#[102]⟩ tX tA) = some none := by
  unfold unifyP
  rw [v2, sort1]
  kernel_rfl
theorem len_le {a b : Tm} {k : Nat} (h : (joinP 9 [] a b).map (fun z => z.1.length) = some k) (hk : k ≤ 1000000) : ∀ D r, joinP 9 [] a b = some (D, r) → D.length ≤ 1000000 := by
  intro D r e
  rw [e] at h
  cases h
  exact hk
theorem l1 : (joinP 9 [] (p2 nP tX tY) (p2 nP tY tA)).map (fun z => z.1.length) = some 3 := by kernel_rfl
theorem l2 : (joinP 9 [] tX (p2 ⟨#[102]⟩ tX tA)).map (fun z => z.1.length) = some 1 := by kernel_rfl
theorem m1 : matchP (p2 nP tX tY) (p2 nP tA tA) [] = some both := by kernel_rfl
theorem a1 : appT [(⟨#[88]⟩, tY), (⟨#[89]⟩, tA)] (p2 nP tX tY) = p2 nP tY tA := by kernel_rfl
theorem d1 : vldS both = true := by kernel_rfl
theorem r1 : repT (renT (namesK (newName ⟨#[86]⟩) [⟨#[88]⟩, ⟨#[89]⟩] 2)) (p2 nP tX tY) = p2 nP (.mk ⟨#[86, 49]⟩ []) (.mk ⟨#[86, 50]⟩ []) := by kernel_rfl
theorem n1 : varB (newName ⟨#[86]⟩ 0) = true ∧ varB (newName ⟨#[86]⟩ 1) = true := ⟨by kernel_rfl, by kernel_rfl⟩
theorem ok_of {t : Tm} {m k : Nat} (h0 : t.nm.size ≤ 16) (h1 : (textT t).length = m) (h2 : sizeT t = k) (h3 : m ≤ 1000000) (h4 : k ≤ 1000000) : Ok t := ⟨by unfold maxLen; omega, by omega, by omega⟩
theorem okX : Ok tX := ok_of (m := 1) (k := 1) (by decide) (by kernel_rfl) (by kernel_rfl) (by decide) (by decide)
theorem okP : Ok (p2 nP tX tY) := ok_of (m := 6) (k := 3) (by decide) (by kernel_rfl) (by kernel_rfl) (by decide) (by decide)
theorem okQ : Ok (p2 nP tY tA) := ok_of (m := 6) (k := 3) (by decide) (by kernel_rfl) (by kernel_rfl) (by decide) (by decide)
theorem okF : Ok (p2 ⟨#[102]⟩ tX tA) := ok_of (m := 6) (k := 3) (by decide) (by kernel_rfl) (by kernel_rfl) (by decide) (by decide)
end UnmJ
end Go.Proofs.YtaenalpckloikaaGreatDoor
/- The calls of the chapter's examples. Condition: the variable nameEnds holds its bytes. -/
namespace Go.Proofs.YtaenalpckloikaaGreatDoor
open Go Go.RowKit
namespace UnmK
open LexM TermM TermI Kit TermN TermU TermL TermE TermF UniK UniM UniA UniC UniD UniE UniF UniO UniL UniP UniQ UniV TermT UnmA UnmE UnmF UnmG UnmH UnmI UnmJ
/-- A term with two arguments. -/
def TwR (n : ByteArray) (l : List Tm) (w : World) (e : Ending) (w' : World) : Prop :=
  ∃ (p : Option Addr) (c : Nat), e = .returned (.agg #[.string n, .slice p 2 c]) ∧ SlIn (· < w'.heap.size) w' l (.slice p 2 c) ∧ Below w.heap.size w w'
set_option maxRecDepth 100000 in
set_option maxHeartbeats 800000 in
theorem func2_any (n : ByteArray) (a b : Tm) (B : Nat) (w : World) (pa pb : Option Addr) (ca cb : Nat) (hB : B ≤ w.heap.size) (ha : SlIn (· < B) w a.args (.slice pa a.args.length ca)) (hb : SlIn (· < B) w b.args (.slice pb b.args.length cb)) (hna : a.nm.size ≤ maxLen) (hnb : b.nm.size ≤ maxLen) :
    Calls Tryz.prog 37 #[.string n, .agg #[.string a.nm, .slice pa a.args.length ca], .agg #[.string b.nm, .slice pb b.args.length cb]] w (TwR n [a, b] w) := by
  obtain ⟨W3, hW3⟩ : ∃ W3, W3 = ((w.alloc (.cells #[.string a.nm, .slice pa a.args.length ca] 27)).alloc (.cells #[.string b.nm, .slice pb b.args.length cb] 27)).alloc (.cells #[.string ⟨#[]⟩, .slice none 0 0] 27) := ⟨_, rfl⟩
  have B3 : Hid (Below w.heap.size w W3) := Lib.hid (by rw [hW3]; exact next0 (next0 (below_alloc _ _) (below_alloc _ _)) (below_alloc _ _))
  have H3 : Hid (Has W3 w.heap.size #[.string a.nm, .slice pa a.args.length ca]) := Lib.hid (by rw [hW3]; exact ((Has.new w _ _).alloc _).alloc _)
  have T3 : Hid (Has W3 (w.heap.size + 1) #[.string b.nm, .slice pb b.args.length cb]) := Lib.hid (by rw [hW3]; exact (Has.new1 w _ _ _).alloc _)
  have E3 : Hid (Has W3 (w.heap.size + 1 + 1) #[.string ⟨#[]⟩, .slice none 0 0]) := Lib.hid (by rw [hW3]; exact Has.new2 w _ _ _ _)
  obtain ⟨W4, hW4⟩ : ∃ W4, W4 = W3.alloc (.cells #[.string a.nm, .slice pa a.args.length ca, .string b.nm, .slice pb b.args.length cb] 27) := ⟨_, rfl⟩
  have B4 : Hid (Below w.heap.size w W4) := Lib.hid (by rw [hW4]; exact next0 B3.out (below_alloc _ _))
  have hs3 : w.heap.size + 3 ≤ W3.heap.size := by rw [hW3]; simp
  have hs4 : W3.heap.size + 1 = W4.heap.size := by rw [hW4]; simp
  have N4 : Hid (Has W4 W3.heap.size #[.string a.nm, .slice pa a.args.length ca, .string b.nm, .slice pb b.args.length cb]) := Lib.hid (by rw [hW4]; exact Has.new _ _ _)
  have E4 : Hid (Has W4 (w.heap.size + 1 + 1) #[.string ⟨#[]⟩, .slice none 0 0]) := Lib.hid (by rw [hW4]; exact E3.out.alloc _)
  obtain ⟨W5, hW5⟩ : ∃ W5, W5 = (W4.setCell ⟨w.heap.size + 1 + 1, 0, none⟩ (.string n)).setCell ⟨w.heap.size + 1 + 1, 1, none⟩ (.slice (some ⟨W3.heap.size, 0, none⟩) 2 2) := ⟨_, rfl⟩
  have B5 : Hid (Below w.heap.size w W5) := Lib.hid (by rw [hW5]; exact (B4.out.setCell (p := ⟨w.heap.size + 1 + 1, 0, none⟩) (by show w.heap.size ≤ w.heap.size + 1 + 1; omega) _).setCell (p := ⟨w.heap.size + 1 + 1, 1, none⟩) (by show w.heap.size ≤ w.heap.size + 1 + 1; omega) _)
  have N5 : Has W5 W3.heap.size #[.string a.nm, .slice pa a.args.length ca, .string b.nm, .slice pb b.args.length cb] := by
    rw [hW5]
    exact (N4.out.far (p := ⟨w.heap.size + 1 + 1, 0, none⟩) (by show W3.heap.size ≠ w.heap.size + 1 + 1; omega) _).far (p := ⟨w.heap.size + 1 + 1, 1, none⟩) (by show W3.heap.size ≠ w.heap.size + 1 + 1; omega) _
  have hs5 : W4.heap.size = W5.heap.size := by rw [hW5]; simp [World.setCell]
  have SL := Lib.hid (TermH.slin_of (B := B) (B' := W5.heap.size) (cap := 2) (L := [(a, .slice pa a.args.length ca), (b, .slice pb b.args.length cb)]) (by omega) (by have := B5.out.size; omega) (Nat.le_refl _) (by unfold maxLen; simp) N5 (fun x hx => by
    rcases List.mem_cons.1 hx with rfl | hx
    · exact ⟨ha.deep B5.out hB, hna⟩
    · obtain rfl := List.mem_singleton.1 hx
      exact ⟨hb.deep B5.out hB, hnb⟩))
  dsimp only [List.map, List.length] at SL
  obtain ⟨e1, e2, e3, e4, e5⟩ := E4.out.two
  have r1 : W5.cell? ⟨w.heap.size + 1 + 1, 0, none⟩ = some (.string n) := by rw [hW5]; exact (((E4.out.set 0 (.string n)).set 1 _).cell 0)
  have r2 : W5.cell? ⟨w.heap.size + 1 + 1, 1, none⟩ = some (.slice (some ⟨W3.heap.size, 0, none⟩) 2 2) := by rw [hW5]; exact (((E4.out.set 0 (.string n)).set 1 _).cell 1)
  clear ha hb hna hnb N4 N5 E4 E3 B4
  obtain ⟨y1, y2, _⟩ := H3.out.two
  obtain ⟨z1, z2, _⟩ := T3.out.two
  unfold TwR
  have HL : Hid ([a, b] = [a, b]) := Lib.hid rfl
  generalize [a, b] = l at *
  generalize a.nm = an at *
  generalize a.args.length = al at *
  generalize b.nm = bn at *
  generalize b.args.length = bl at *
  clear HL
  go_enter Tryz.func37, Tryz.ntmps37
  go_upto_region 1 with fail
  rw [← hW3]
  clear hW3
  rw [hW4] at e1 e2 e3 e4
  go_wp2_with fail
  rw [← hW4, ← hW5]
  refine bodyPost_ret (v := .agg #[.string n, .slice (some ⟨W3.heap.size, 0, none⟩) 2 2]) (by simp [results, Tryz.results37, go_sem, r1, r2]) rfl ?_
  exact ⟨_, _, rfl, SL.out, B5.out⟩
/-! ### The examples -/
theorem z1 : sizeT (p2 nP tX tY) = 3 := by kernel_rfl
theorem z2 : sizeT (p2 nP tY tA) = 3 := by kernel_rfl
theorem z3 : sizeT tX = 1 := by kernel_rfl
theorem z4 : sizeT (p2 ⟨#[102]⟩ tX tA) = 3 := by kernel_rfl
theorem z5 : sizeT (p2 nP tA tA) = 3 := by kernel_rfl
theorem c_u1 (w : World) (hw : Wd w) (p q : Option Addr) (c d : Nat) (h1 : SlIn (· < w.heap.size) w [tX, tY] (.slice p 2 c)) (h2 : SlIn (· < w.heap.size) w [tY, tA] (.slice q 2 d)) :
    Calls Tryz.prog 29 #[.agg #[.string ⟨#[112]⟩, .slice p 2 c], .agg #[.string ⟨#[112]⟩, .slice q 2 d]] w fun e w' => ∃ v : Value, e = .returned (.tuple #[v, .bool true]) ∧ SIn (· < w'.heap.size) w' both v ∧ Below w.heap.size w w' := by
  have := unify_any sortc 9 (p2 nP tX tY) (p2 nP tY tA) (some both) u1 okP okQ (by rw [z1, z2]; decide) (len_le l1 (by decide)) w.heap.size w (.slice p 2 c) (.slice q 2 d) hw hw.1 (Nat.le_refl _) h1 h2
  refine this.mono ?_
  rintro e w' ⟨v, f, rfl, ht, hf, hb⟩
  cases f
  · cases (hf rfl).1
  · obtain ⟨s', e1, h⟩ := ht rfl
    cases e1
    exact ⟨v, rfl, h, hb⟩
theorem c_u2 (w : World) (hw : Wd w) (q : Option Addr) (d : Nat) (h2 : SlIn (· < w.heap.size) w [tX, tA] (.slice q 2 d)) :
    Calls Tryz.prog 29 #[.agg #[.string ⟨#[88]⟩, .slice none 0 0], .agg #[.string ⟨#[102]⟩, .slice q 2 d]] w fun e w' => e = .returned (.tuple #[.slice none 0 0, .bool false]) ∧ Below w.heap.size w w' := by
  have := unify_any sortc 9 tX (p2 ⟨#[102]⟩ tX tA) none u2 okX okF (by rw [z3, z4]; decide) (len_le l2 (by decide)) w.heap.size w (.slice none 0 0) (.slice q 2 d) hw hw.1 (Nat.le_refl _) (SlIn.none _ _) h2
  refine this.mono ?_
  rintro e w' ⟨v, f, rfl, ht, hf, hb⟩
  cases f
  · obtain ⟨_, rfl⟩ := hf rfl
    exact ⟨rfl, hb⟩
  · obtain ⟨s', e1, h⟩ := ht rfl
    cases e1
theorem c_m (w : World) (p q : Option Addr) (c d : Nat) (h1 : SlIn (· < w.heap.size) w [tX, tY] (.slice p 2 c)) (h2 : SlIn (· < w.heap.size) w [tA, tA] (.slice q 2 d)) :
    Calls Tryz.prog 26 #[.agg #[.string ⟨#[112]⟩, .slice p 2 c], .agg #[.string ⟨#[112]⟩, .slice q 2 d], .slice none 0 0] w fun e w' => ∃ v : Value, e = .returned (.tuple #[v, .bool true]) ∧ SIn (· < w'.heap.size) w' both v ∧ Below w.heap.size w w' := by
  have := match_any (p2 nP tX tY) (p2 nP tA tA) [] (by rw [z5]; decide) (fun y hy => by cases hy) w.heap.size w (.slice none 0 0) (.slice p 2 c) (.slice q 2 d) (Nat.le_refl _) (SIn.nil _ _) h1 h2 (by decide) (by decide)
  rw [m1] at this
  refine this.mono ?_
  rintro e w' ⟨v, f, rfl, ht, hf, hb⟩
  cases f
  · cases (hf rfl).1
  · obtain ⟨s', e1, h⟩ := ht rfl
    cases e1
    exact ⟨v, rfl, h, hb⟩
theorem d2 : vldS [(⟨#[88]⟩, tY), (⟨#[89]⟩, tA)] = true := by kernel_rfl
theorem c_a (w : World) (sv : Value) (p : Option Addr) (c : Nat) (hs : SIn (· < w.heap.size) w [(⟨#[88]⟩, tY), (⟨#[89]⟩, tA)] sv) (h1 : SlIn (· < w.heap.size) w [tX, tY] (.slice p 2 c)) :
    Calls Tryz.prog 20 #[sv, .agg #[.string ⟨#[112]⟩, .slice p 2 c]] w (TwR ⟨#[112]⟩ [tY, tA] w) := by
  have := apply_any [(⟨#[88]⟩, tY), (⟨#[89]⟩, tA)] (vld_srt d2).1 ⟨by decide, fun y hy => by
    rcases List.mem_cons.1 hy with rfl | hy
    · have e2 : sizeT tY = 1 := by kernel_rfl
      show sizeT tY ≤ _
      omega
    · obtain rfl := List.mem_singleton.1 hy
      have e2 : sizeT tA = 1 := by kernel_rfl
      show sizeT tA ≤ _
      omega⟩ (p2 nP tX tY) w.heap.size w sv (.slice p 2 c) (Nat.le_refl _) hs h1 (by decide) (by rw [z1]; decide)
  rw [a1] at this
  refine this.mono ?_
  rintro e w' ⟨q, d, rfl, h, _, hb⟩
  exact ⟨q, d, rfl, h.weaken fun b hb => hb.2, hb⟩
theorem c_r (w : World) (p : Option Addr) (c : Nat) (h1 : SlIn (· < w.heap.size) w [tX, tY] (.slice p 2 c)) :
    Calls Tryz.prog 33 #[.agg #[.string ⟨#[112]⟩, .slice p 2 c, .slice none 0 0], .string ⟨#[86]⟩] w fun e w' => ∃ (q : Option Addr) (d : Nat), e = .returned (.tuple #[.agg #[.string ⟨#[112]⟩, .slice q 2 d, .slice none 0 0], .bool true]) ∧ SlIn (· < w'.heap.size) w' [.mk ⟨#[86, 49]⟩ [], .mk ⟨#[86, 50]⟩ []] (.slice q 2 d) ∧ Below w.heap.size w w' := by
  have := rename_nil (p2 nP tX tY) ⟨#[86]⟩ w.heap.size w (.slice p 2 c) (Nat.le_refl _) h1 (by decide) (by rw [z1]; decide) (by rw [v3]; decide) (fun k hk => by
    rw [v3] at hk
    have hk2 : k < 2 := hk
    match k, hk2 with
    | 0, _ => exact n1.1
    | 1, _ => exact n1.2)
  rw [v3] at this
  rw [show ([⟨#[88]⟩, ⟨#[89]⟩] : List ByteArray).length = 2 from rfl, r1] at this
  refine this.mono ?_
  rintro e w' ⟨q, d, rfl, h, _, hb⟩
  exact ⟨q, d, rfl, h.weaken fun b hb => hb.2, hb⟩
end UnmK
end Go.Proofs.YtaenalpckloikaaGreatDoor
/- awake: the chapter's examples; made by genunml.py. Condition: the variable nameEnds holds its bytes. -/
namespace Go.Proofs.YtaenalpckloikaaGreatDoor
open Go Go.RowKit
namespace UnmL
open LexM TermM TermI Kit TermN TermU TermL TermE TermF UniK UniM UniA UniC UniD UniE UniF UniO UniL UniP UniQ UniV TermT UnmA UnmE UnmF UnmG UnmH UnmI UnmJ UnmK
theorem c_f (n a b : ByteArray) (ha : a.size ≤ maxLen) (hb : b.size ≤ maxLen) (w : World) : Calls Tryz.prog 37 #[.string n, .agg #[.string a, .slice none 0 0], .agg #[.string b, .slice none 0 0]] w (TwR n [.mk a [], .mk b []] w) :=
  func2_any n (.mk a []) (.mk b []) 0 w none none 0 0 (Nat.zero_le _) (SlIn.none _ _) (SlIn.none _ _) ha hb
theorem sin_has {ok : Nat → Prop} {w : World} {g : Nat} (L : List (Bd × Value)) (hH : Has w g (KB.flat L).toArray) (hI : ∀ x ∈ L, KB.inn ok w x) (hg : ok g) (hl : L.length ≤ maxLen) : SIn ok w (L.map (·.1)) (.slice (some ⟨g, 0, none⟩) L.length L.length) := by
  refine ⟨L, rfl, some ⟨g, 0, none⟩, L.length, rfl, Nat.le_refl _, hl, hI, fun _ => ⟨g, 0, rfl, hg, fun i x hx j u hu => ?_⟩⟩
  rw [Nat.zero_add, hH.cell]
  have := flat_get (K := KB) L i x hx j u hu
  simpa using this
theorem sin_two (w : World) (g : Nat) (a b s t : ByteArray) (ha : a.size ≤ maxLen) (hb : b.size ≤ maxLen) (hs : s.size ≤ maxLen) (ht : t.size ≤ maxLen) (hg : g < w.heap.size)
    (hH : Has w g #[.string a, .string s, .slice none 0 0, .string b, .string t, .slice none 0 0]) : SIn (· < w.heap.size) w [(a, .mk s []), (b, .mk t [])] (.slice (some ⟨g, 0, none⟩) 2 2) := by
  refine sin_has [((a, .mk s []), .slice none 0 0), ((b, .mk t []), .slice none 0 0)] hH ?_ hg (by unfold maxLen; simp)
  intro x hx
  rcases List.mem_cons.1 hx with rfl | hx
  · exact ⟨SlIn.none _ _, hs, ha⟩
  · obtain rfl := List.mem_singleton.1 hx
    exact ⟨SlIn.none _ _, ht, hb⟩
theorem c_t (l : List Tm) (n : ByteArray) (_hl : l.length = 2) (w : World) (p q : Option Addr) (c d : Nat) (h1 : SlIn (· < w.heap.size) w l (.slice p 2 c)) (h2 : SlIn (· < w.heap.size) w l (.slice q 2 d)) :
    Calls Tryz.prog 18 #[.agg #[.string n, .slice p 2 c], .agg #[.string n, .slice q 2 d]] w fun e w' => e = .returned (.bool true) ∧ Gr w w' :=
  TermEq.term_any (.mk n l) true w.heap.size w _ (.mk n l) _ (by simp) (Nat.le_refl _) h1 h2
set_option maxRecDepth 100000 in
set_option maxHeartbeats 3200000 in
theorem awake_any (w : World) (hw : Wd w) : Calls Tryz.prog 13 #[] w fun e w' => e = .returned (.bool true) ∧ Below w.heap.size w w' := by
  obtain ⟨W3, hW3⟩ : ∃ W3, W3 = ((w.alloc (.cells #[.string ⟨#[97]⟩, .slice none 0 0] 27)).alloc (.cells #[.string ⟨#[88]⟩, .slice none 0 0] 27)).alloc (.cells #[.string ⟨#[89]⟩, .slice none 0 0] 27) := ⟨_, rfl⟩
  have B3 : Hid (Below w.heap.size w W3) := Lib.hid (by rw [hW3]; exact next0 (next0 (below_alloc _ _) (below_alloc _ _)) (below_alloc _ _))
  have A3 : Hid (Has W3 w.heap.size #[.string ⟨#[97]⟩, .slice none 0 0]) := Lib.hid (by rw [hW3]; exact ((Has.new w _ _).alloc _).alloc _)
  have X3 : Hid (Has W3 (w.heap.size + 1) #[.string ⟨#[88]⟩, .slice none 0 0]) := Lib.hid (by rw [hW3]; exact (Has.new1 w _ _ _).alloc _)
  have Y3 : Hid (Has W3 (w.heap.size + 1 + 1) #[.string ⟨#[89]⟩, .slice none 0 0]) := Lib.hid (by rw [hW3]; exact Has.new2 w _ _ _ _)
  have HWD := Lib.hid (fun w' (k : Below w.heap.size w w') => hw.below k hw.1)
  have F2 := Lib.hid (fun w' => c_f ⟨#[112]⟩ ⟨#[88]⟩ ⟨#[89]⟩ (by decide) (by decide) w')
  unfold TwR at F2
  clear hw
  obtain ⟨x1, x2, _⟩ := X3.out.two
  obtain ⟨y1, y2, _⟩ := Y3.out.two
  go_enter Tryz.func13, Tryz.ntmps13
  go_upto_region 2 with fail
  rw [← hW3]
  clear hW3
  go_wp2_with fail
  refine (F2.out _).mono ?_
  rintro e w4 ⟨pP, cP, rfl, s4, b4⟩
  obtain ⟨W5, hW5⟩ : ∃ W5, W5 = w4.alloc (.cells #[.string ⟨#[112]⟩, .slice pP 2 cP] 27) := ⟨_, rfl⟩
  have B5 : Hid (Below W3.heap.size W3 W5) := Lib.hid (by rw [hW5]; exact next0 b4 (below_alloc _ _))
  have P5 : Hid (Has W5 w4.heap.size #[.string ⟨#[112]⟩, .slice pP 2 cP]) := Lib.hid (by rw [hW5]; exact Has.new _ _ _)
  have SP := Lib.hid (fun w' (k : Below W5.heap.size W5 w') => show SlIn (· < w'.heap.size) w' [tX, tY] (.slice pP 2 cP) from by
    have k4 : Below w4.heap.size w4 w' := by rw [hW5] at k; exact next0 (below_alloc _ _) k
    exact (s4.deep k4 (Nat.le_refl _)).weaken fun b hb => Nat.lt_of_lt_of_le hb k4.size)
  have BW := Lib.hid (next0 B3.out B5.out)
  have HH5 := Lib.hid (fun w' (k : Below W5.heap.size W5 w') => show w'.cell? ⟨w.heap.size, 0, none⟩ = some (.string ⟨#[97]⟩) ∧ w'.cell? ⟨w.heap.size, 1, none⟩ = some (.slice none 0 0) ∧ w'.cell? ⟨w.heap.size + 1, 0, none⟩ = some (.string ⟨#[88]⟩) ∧ w'.cell? ⟨w.heap.size + 1, 1, none⟩ = some (.slice none 0 0) ∧ w'.cell? ⟨w.heap.size + 1 + 1, 0, none⟩ = some (.string ⟨#[89]⟩) ∧ w'.cell? ⟨w.heap.size + 1 + 1, 1, none⟩ = some (.slice none 0 0) ∧ w'.cell? ⟨w4.heap.size, 0, none⟩ = some (.string ⟨#[112]⟩) ∧ w'.cell? ⟨w4.heap.size, 1, none⟩ = some (.slice pP 2 cP) from by
    have k3 := next0 B5.out k
    obtain ⟨a1, a2, _⟩ := (A3.out.step0 k3).two
    obtain ⟨b1, b2, _⟩ := (X3.out.step0 k3).two
    obtain ⟨c1, c2, _⟩ := (Y3.out.step0 k3).two
    obtain ⟨d1, d2, _⟩ := (P5.out.step0 k).two
    exact ⟨a1, a2, b1, b2, c1, c2, d1, d2⟩)
  have CU1 := Lib.hid (fun w' (k : Below W5.heap.size W5 w') q d h => c_u1 w' (HWD.out w' (next0 BW.out k)) pP q cP d (SP.out w' k) h)
  have CM1 := Lib.hid (fun w' (k : Below W5.heap.size W5 w') q d h => c_m w' pP q cP d (SP.out w' k) h)
  have CU2 := Lib.hid (fun w' (k : Below W5.heap.size W5 w') q d h => c_u2 w' (HWD.out w' (next0 BW.out k)) q d h)
  have CA1 := Lib.hid (fun w' (k : Below W5.heap.size W5 w') sv h => c_a w' sv pP cP h (SP.out w' k))
  have CR1 := Lib.hid (fun w' (k : Below W5.heap.size W5 w') => c_r w' pP cP (SP.out w' k))
  unfold TwR at CA1
  have K2 : Hid (Below W5.heap.size W5 W5) := Lib.hid (Below.refl _ _)
  clear x1 x2 y1 y2 s4 b4 F2 A3 X3 Y3 P5 B3 B5 HWD SP
  go_upto_region 3 with fail
  rw [← hW5]
  clear hW5
  have F3 := Lib.hid (fun w' => c_f ⟨#[112]⟩ ⟨#[89]⟩ ⟨#[97]⟩ (by decide) (by decide) w')
  unfold TwR at F3
  obtain ⟨x1, x2, x3, x4, x5, x6, x7, x8⟩ := HH5.out _ K2.out
  go_cut [5, 6] (fun s5 s6 wx => s6 = .bool true ∧ Hid (SIn (· < wx.heap.size) wx both s5) ∧ Hid (Below W5.heap.size W5 wx))
  case first =>
    go_region_law (first
      | (go_simp; go_at_call 37; (with_reducible refine (F3.out _).mono ?_); rintro e w6 ⟨q6, d6, rfl, s6, b6⟩; have K6 : Hid (Below W5.heap.size W5 w6) := Lib.hid (by first | exact next0 K2.out b6 | exact next0 K2.out.drew b6 | exact next0 (below_drewN K2.out _) b6); have S6 := Lib.hid s6; clear s6 b6 x1 x2 x3 x4 x5 x6 x7 x8; obtain ⟨x1, x2, x3, x4, x5, x6, x7, x8⟩ := HH5.out _ K6.out)
      | (go_simp; go_at_call 29; (with_reducible refine (CU1.out _ (by first | exact K6.out | exact K6.out.drew | exact below_drewN K6.out _) _ _ (by first | exact S6.out | exact S6.out.frame (fun _ _ _ => rfl))).mono ?_); rintro e w7 ⟨v7, rfl, h7, b7⟩; have K7 : Hid (Below W5.heap.size W5 w7) := Lib.hid (by first | exact next0 K6.out b7 | exact next0 K6.out.drew b7 | exact next0 (below_drewN K6.out _) b7); have S7 := Lib.hid h7; clear h7 b7))
    all_goals
      go_wp2_with fail
      go_meet
      exact ⟨rfl, S7, K7⟩
  case rest =>
    obtain ⟨rfl, SA, K3⟩ := hcut
    obtain ⟨wa, hwa⟩ : ∃ wa, wa = wc := ⟨_, rfl⟩
    rw [← hwa] at SA K3 ⊢
    clear hwa
    clear x1 x2 x3 x4 x5 x6 x7 x8 F3 K2
    have F4 := Lib.hid (fun w' => c_f ⟨#[112]⟩ ⟨#[97]⟩ ⟨#[97]⟩ (by decide) (by decide) w')
    unfold TwR at F4
    go_upto_region 4 with fail
    obtain ⟨x1, x2, x3, x4, x5, x6, x7, x8⟩ := HH5.out _ K3.out
    go_cut [7, 8] (fun s7 s8 wx => s8 = .bool true ∧ Hid (SIn (· < wx.heap.size) wx both s7) ∧ Hid (Below wa.heap.size wa wx) ∧ Hid (Below W5.heap.size W5 wx))
    case first =>
      go_region_law (first
        | (go_simp; go_at_call 37; (with_reducible refine (F4.out _).mono ?_); rintro e w6 ⟨q6, d6, rfl, s6, b6⟩; have K6 : Hid (Below W5.heap.size W5 w6) := Lib.hid (by first | exact next0 K3.out b6 | exact next0 K3.out.drew b6 | exact next0 (below_drewN K3.out _) b6); have R6 : Hid (Below wa.heap.size wa w6) := Lib.hid (by first | exact b6 | exact next0 (Below.refl _ _).drew b6 | exact next0 (below_drewN (Below.refl _ _) _) b6); have S6 := Lib.hid s6; clear s6 b6 x1 x2 x3 x4 x5 x6 x7 x8; obtain ⟨x1, x2, x3, x4, x5, x6, x7, x8⟩ := HH5.out _ K6.out)
        | (go_simp; go_at_call 26; (with_reducible refine (CM1.out _ (by first | exact K6.out | exact K6.out.drew | exact below_drewN K6.out _) _ _ (by first | exact S6.out | exact S6.out.frame (fun _ _ _ => rfl))).mono ?_); rintro e w7 ⟨v7, rfl, h7, b7⟩; have K7 : Hid (Below W5.heap.size W5 w7) := Lib.hid (by first | exact next0 K6.out b7 | exact next0 K6.out.drew b7 | exact next0 (below_drewN K6.out _) b7); have R7 : Hid (Below wa.heap.size wa w7) := Lib.hid (by first | exact next0 R6.out b7 | exact next0 R6.out.drew b7 | exact next0 (below_drewN R6.out _) b7); have S7 := Lib.hid h7; clear h7 b7))
      all_goals
        go_wp2_with fail
        go_meet
        exact ⟨rfl, S7, R7, K7⟩
    case rest =>
      obtain ⟨rfl, SB, R4, K4⟩ := hcut
      obtain ⟨wb, hwb⟩ : ∃ wb, wb = wc := ⟨_, rfl⟩
      rw [← hwb] at SB R4 K4 ⊢
      clear hwb
      clear x1 x2 x3 x4 x5 x6 x7 x8 F4
      have F5 := Lib.hid (fun w' => c_f ⟨#[102]⟩ ⟨#[88]⟩ ⟨#[97]⟩ (by decide) (by decide) w')
      unfold TwR at F5
      go_upto_region 5 with fail
      obtain ⟨x1, x2, x3, x4, x5, x6, x7, x8⟩ := HH5.out _ K4.out
      go_cut [9, 10] (fun s9 s10 wx => s10 = .bool false ∧ Hid (Below wb.heap.size wb wx) ∧ Hid (Below W5.heap.size W5 wx))
      case first =>
        go_region_law (first
          | (go_simp; go_at_call 37; (with_reducible refine (F5.out _).mono ?_); rintro e w6 ⟨q6, d6, rfl, s6, b6⟩; have K6 : Hid (Below W5.heap.size W5 w6) := Lib.hid (by first | exact next0 K4.out b6 | exact next0 K4.out.drew b6 | exact next0 (below_drewN K4.out _) b6); have R6 : Hid (Below wb.heap.size wb w6) := Lib.hid (by first | exact b6 | exact next0 (Below.refl _ _).drew b6 | exact next0 (below_drewN (Below.refl _ _) _) b6); have S6 := Lib.hid s6; clear s6 b6 x1 x2 x3 x4 x5 x6 x7 x8; obtain ⟨x1, x2, x3, x4, x5, x6, x7, x8⟩ := HH5.out _ K6.out)
          | (go_simp; go_at_call 29; (with_reducible refine (CU2.out _ (by first | exact K6.out | exact K6.out.drew | exact below_drewN K6.out _) _ _ (by first | exact S6.out | exact S6.out.frame (fun _ _ _ => rfl))).mono ?_); rintro e w7 ⟨rfl, b7⟩; have K7 : Hid (Below W5.heap.size W5 w7) := Lib.hid (by first | exact next0 K6.out b7 | exact next0 K6.out.drew b7 | exact next0 (below_drewN K6.out _) b7); have R7 : Hid (Below wb.heap.size wb w7) := Lib.hid (by first | exact next0 R6.out b7 | exact next0 R6.out.drew b7 | exact next0 (below_drewN R6.out _) b7); clear b7))
        all_goals
          go_wp2_with fail
          go_meet
          exact ⟨rfl, R7, K7⟩
      case rest =>
        obtain ⟨rfl, R5, K5⟩ := hcut
        obtain ⟨wd, hwd⟩ : ∃ wd, wd = wc := ⟨_, rfl⟩
        rw [← hwd] at R5 K5 ⊢
        clear hwd
        clear x1 x2 x3 x4 x5 x6 x7 x8 F5 CU1 CU2 CM1
        have RA5 := Lib.hid (next0 R4.out R5.out)
        obtain ⟨W8, hW8⟩ : ∃ W8, W8 = wd.alloc (.cells #[.string ⟨#[88]⟩, .string ⟨#[89]⟩, .slice none 0 0, .string ⟨#[89]⟩, .string ⟨#[97]⟩, .slice none 0 0] 52) := ⟨_, rfl⟩
        have D8 : Hid (Below wd.heap.size wd W8) := Lib.hid (by rw [hW8]; exact below_alloc _ _)
        have hs8 : wd.heap.size < W8.heap.size := by rw [hW8]; simp
        have CA2 := Lib.hid (CA1.out W8 (next0 K5.out D8.out) (.slice (some ⟨wd.heap.size, 0, none⟩) 2 2) (sin_two W8 wd.heap.size ⟨#[88]⟩ ⟨#[89]⟩ ⟨#[89]⟩ ⟨#[97]⟩ (by decide) (by decide) (by decide) (by decide) hs8 (by rw [hW8]; exact Has.new _ _ _)))
        obtain ⟨x1, x2, x3, x4, x5, x6, x7, x8⟩ := HH5.out _ K5.out
        have z7 : W8.cell? ⟨w4.heap.size, 0, none⟩ = some (.string ⟨#[112]⟩) := (HH5.out _ (next0 K5.out D8.out)).2.2.2.2.2.2.1
        have z8 : W8.cell? ⟨w4.heap.size, 1, none⟩ = some (.slice pP 2 cP) := (HH5.out _ (next0 K5.out D8.out)).2.2.2.2.2.2.2
        rw [hW8] at z7 z8
        go_wp2_with fail
        rw [← hW8]
        clear hW8 CA1 z7 z8 x1 x2 x3 x4 x5 x6 x7 x8
        refine CA2.out.mono ?_
        rintro e w9 ⟨pT, cT, rfl, sT, b9⟩
        obtain ⟨W10, hW10⟩ : ∃ W10, W10 = w9.alloc (.cells #[.string ⟨#[112]⟩, .slice pT 2 cT] 27) := ⟨_, rfl⟩
        have D10 : Hid (Below wd.heap.size wd W10) := Lib.hid (by rw [hW10]; exact next0 (next0 D8.out b9) (below_alloc _ _))
        have T10 : Hid (Has W10 w9.heap.size #[.string ⟨#[112]⟩, .slice pT 2 cT]) := Lib.hid (by rw [hW10]; exact Has.new _ _ _)
        have ST := Lib.hid (fun w' (k : Below W10.heap.size W10 w') => show SlIn (· < w'.heap.size) w' [tY, tA] (.slice pT 2 cT) from by
          have k4 : Below w9.heap.size w9 w' := by rw [hW10] at k; exact next0 (below_alloc _ _) k
          exact (sT.deep k4 (Nat.le_refl _)).weaken fun b hb => Nat.lt_of_lt_of_le hb k4.size)
        obtain ⟨x1, x2, x3, x4, x5, x6, x7, x8⟩ := HH5.out _ (next0 K5.out D10.out)
        clear sT b9 CA2 D8
        go_upto_region 7 with fail
        rw [← hW10]
        clear hW10
        obtain ⟨W11, hW11⟩ : ∃ W11, W11 = W10.alloc (.cells #[.string ⟨#[88]⟩, .string ⟨#[97]⟩, .slice none 0 0, .string ⟨#[89]⟩, .string ⟨#[97]⟩, .slice none 0 0] 52) := ⟨_, rfl⟩
        have D11 : Hid (Below W10.heap.size W10 W11) := Lib.hid (by rw [hW11]; exact below_alloc _ _)
        have hs11 : W10.heap.size < W11.heap.size := by rw [hW11]; simp
        have SBo := Lib.hid (fun w' (k : Below W11.heap.size W11 w') => sin_two w' W10.heap.size ⟨#[88]⟩ ⟨#[89]⟩ ⟨#[97]⟩ ⟨#[97]⟩ (by decide) (by decide) (by decide) (by decide) (Nat.lt_of_lt_of_le hs11 k.size) (by have h : Has W11 W10.heap.size #[.string ⟨#[88]⟩, .string ⟨#[97]⟩, .slice none 0 0, .string ⟨#[89]⟩, .string ⟨#[97]⟩, .slice none 0 0] := (by rw [hW11]; exact Has.new _ _ _); exact h.step0 k))
        go_upto_region 8 with fail
        rw [← hW11]
        clear hW11 x1 x2 x3 x4 x5 x6 x7 x8
        have K11 := Lib.hid (next0 (next0 K5.out D10.out) D11.out)
        obtain ⟨x1, x2, x3, x4, x5, x6, x7, x8⟩ := HH5.out _ K11.out
        go_wp2_with fail
        refine (CR1.out _ K11.out).mono ?_
        rintro e w12 ⟨pR, cR, rfl, sR, b12⟩
        obtain ⟨W13, hW13⟩ : ∃ W13, W13 = w12.alloc (.cells #[.string ⟨#[112]⟩, .slice pR 2 cR, .slice none 0 0] 34) := ⟨_, rfl⟩
        have D13 : Hid (Below W11.heap.size W11 W13) := Lib.hid (by rw [hW13]; exact next0 b12 (below_alloc _ _))
        have R13 : Hid (Has W13 w12.heap.size #[.string ⟨#[112]⟩, .slice pR 2 cR, .slice none 0 0]) := Lib.hid (by rw [hW13]; exact Has.new _ _ _)
        have SR := Lib.hid (fun w' (k : Below W13.heap.size W13 w') => show SlIn (· < w'.heap.size) w' [.mk ⟨#[86, 49]⟩ [], .mk ⟨#[86, 50]⟩ []] (.slice pR 2 cR) from by
          have k4 : Below w12.heap.size w12 w' := by rw [hW13] at k; exact next0 (below_alloc _ _) k
          exact (sR.deep k4 (Nat.le_refl _)).weaken fun b hb => Nat.lt_of_lt_of_le hb k4.size)
        have KA := Lib.hid (next0 (next0 RA5.out (next0 D10.out D11.out)) D13.out)
        have KB9 := Lib.hid (next0 (next0 R5.out (next0 D10.out D11.out)) D13.out)
        have K13 := Lib.hid (next0 K11.out D13.out)
        have D1013 := Lib.hid (next0 D11.out D13.out)
        clear sR b12 x1 x2 x3 x4 x5 x6 x7 x8 CR1
        go_upto_region 9 with fail
        rw [← hW13]
        clear hW13
        have CS1 := Lib.hid (fun w' (k : Below W13.heap.size W13 w') => same_any both both true (by simp) w'.heap.size w' u5 (.slice (some ⟨W10.heap.size, 0, none⟩) 2 2) (Nat.le_refl _) ((SA.out.deep (next0 KA.out k) (Nat.le_refl _)).wide fun b hb => Nat.lt_of_lt_of_le hb (next0 KA.out k).size) (SBo.out w' (next0 D13.out k)))
        have CS2 := Lib.hid (fun w' (k : Below W13.heap.size W13 w') => same_any both both true (by simp) w'.heap.size w' u7 (.slice (some ⟨W10.heap.size, 0, none⟩) 2 2) (Nat.le_refl _) ((SB.out.deep (next0 KB9.out k) (Nat.le_refl _)).wide fun b hb => Nat.lt_of_lt_of_le hb (next0 KB9.out k).size) (SBo.out w' (next0 D13.out k)))
        have CV1 := Lib.hid (fun w' (k : Below W13.heap.size W13 w') => cvalid_any both w'.heap.size w' (.slice (some ⟨W10.heap.size, 0, none⟩) 2 2) (Nat.le_refl _) (SBo.out w' (next0 D13.out k)))
        rw [d1] at CV1
        have CT1 := Lib.hid (fun w' q d (k : Below W13.heap.size W13 w') h => c_t [tY, tA] ⟨#[112]⟩ rfl w' pT q cT d (ST.out w' (next0 D1013.out k)) h)
        have CT2 := Lib.hid (fun w' q d (k : Below W13.heap.size W13 w') h => c_t [.mk ⟨#[86, 49]⟩ [], .mk ⟨#[86, 50]⟩ []] ⟨#[112]⟩ rfl w' pR q cR d (SR.out w' k) h)
        have F7 := Lib.hid (fun w' => c_f ⟨#[112]⟩ ⟨#[89]⟩ ⟨#[97]⟩ (by decide) (by decide) w')
        have F8 := Lib.hid (fun w' => c_f ⟨#[112]⟩ ⟨#[86, 49]⟩ ⟨#[86, 50]⟩ (by decide) (by decide) w')
        unfold TwR at F7 F8
        have Hb := Lib.hid (fun w' (k : Below W13.heap.size W13 w') => show w'.cell? ⟨w9.heap.size, 0, none⟩ = some (.string ⟨#[112]⟩) ∧ w'.cell? ⟨w9.heap.size, 1, none⟩ = some (.slice pT 2 cT) ∧ w'.cell? ⟨w.heap.size + 1 + 1, 0, none⟩ = some (.string ⟨#[89]⟩) ∧ w'.cell? ⟨w.heap.size + 1 + 1, 1, none⟩ = some (.slice none 0 0) ∧ w'.cell? ⟨w.heap.size, 0, none⟩ = some (.string ⟨#[97]⟩) ∧ w'.cell? ⟨w.heap.size, 1, none⟩ = some (.slice none 0 0) ∧ w'.cell? ⟨w12.heap.size, 0, none⟩ = some (.string ⟨#[112]⟩) ∧ w'.cell? ⟨w12.heap.size, 1, none⟩ = some (.slice pR 2 cR) ∧ Hid (Below W13.heap.size W13 w') from by
          obtain ⟨x1, x2, x3, x4, x5, x6, x7, x8⟩ := HH5.out _ (next0 K13.out k)
          obtain ⟨t1, t2, _⟩ := (T10.out.step0 (next0 D1013.out k)).two
          obtain ⟨r1, r2, r3⟩ := three (R13.out.step0 k)
          exact ⟨t1, t2, x5, x6, x1, x2, r1, r2, Lib.hid k⟩)
        have FIN := Lib.hid (fun w' (k : Below W13.heap.size W13 w') => next0 (next0 BW.out K13.out) k)
        have hs0 := Hb.out _ (Below.refl W13.heap.size W13).drew
        clear SA SB SBo ST SR HH5 T10 R13 RA5 KA KB9 K13 D1013 D13 K11 D11 D10 K5 R5 R4 K4 K3 BW hs11
        refine wp_region_held_drew (S := (fun w' => w'.cell? ⟨w9.heap.size, 0, none⟩ = some (.string ⟨#[112]⟩) ∧ w'.cell? ⟨w9.heap.size, 1, none⟩ = some (.slice pT 2 cT) ∧ w'.cell? ⟨w.heap.size + 1 + 1, 0, none⟩ = some (.string ⟨#[89]⟩) ∧ w'.cell? ⟨w.heap.size + 1 + 1, 1, none⟩ = some (.slice none 0 0) ∧ w'.cell? ⟨w.heap.size, 0, none⟩ = some (.string ⟨#[97]⟩) ∧ w'.cell? ⟨w.heap.size, 1, none⟩ = some (.slice none 0 0) ∧ w'.cell? ⟨w12.heap.size, 0, none⟩ = some (.string ⟨#[112]⟩) ∧ w'.cell? ⟨w12.heap.size, 1, none⟩ = some (.slice pR 2 cR) ∧ Hid (Below W13.heap.size W13 w'))) (by kernel_rfl) hs0 (fun hHeld => ?_)
        refine wpAnyH_take (i := 0) (v := ?_) rfl (by kernel_rfl) (by kernel_rfl) (by kernel_rfl) (fun _ _ _ h => h) (Or.inl ⟨by rfl, ?_⟩) (by assumption) ?_
        rotate_left
        · intro w' hSw; (try dsimp only at hSw); (try simp only [List.getElem_toArray, List.getElem_cons_zero]); go_simp; try with_reducible rfl
        (try simp only [List.getElem_toArray, List.getElem_cons_zero, Act.put, List.setIfInBounds_toArray, List.set_cons_zero, List.set_cons_succ])
        refine wpAnyH_take (i := 1) (v := ?_) rfl (by kernel_rfl) (by kernel_rfl) (by kernel_rfl) (fun _ _ _ h => h) (Or.inl ⟨by rfl, ?_⟩) (by assumption) ?_
        rotate_left
        · intro w' hSw; (try dsimp only at hSw); (try simp only [List.getElem_toArray, List.getElem_cons_zero, List.getElem_cons_succ]); go_simp; try with_reducible rfl
        (try simp only [List.getElem_toArray, List.getElem_cons_zero, List.getElem_cons_succ, Act.put, List.setIfInBounds_toArray, List.set_cons_zero, List.set_cons_succ])
        refine wpAnyH_take (i := 2) (v := ?_) rfl (by kernel_rfl) (by kernel_rfl) (by kernel_rfl) (fun _ _ _ h => h) (Or.inl ⟨by rfl, ?_⟩) (by assumption) ?_
        rotate_left
        · intro w' hSw; (try dsimp only at hSw); (try simp only [List.getElem_toArray, List.getElem_cons_zero, List.getElem_cons_succ]); go_simp; try with_reducible rfl
        (try simp only [List.getElem_toArray, List.getElem_cons_zero, List.getElem_cons_succ, Act.put, List.setIfInBounds_toArray, List.set_cons_zero, List.set_cons_succ])
        refine wpAnyH_take (i := 3) (v := ?_) rfl (by kernel_rfl) (by kernel_rfl) (by kernel_rfl) (fun _ _ _ h => h) (Or.inl ⟨by rfl, ?_⟩) (by assumption) ?_
        rotate_left
        · intro w' hSw; (try dsimp only at hSw); (try simp only [List.getElem_toArray, List.getElem_cons_zero, List.getElem_cons_succ]); go_simp; try with_reducible rfl
        (try simp only [List.getElem_toArray, List.getElem_cons_zero, List.getElem_cons_succ, Act.put, List.setIfInBounds_toArray, List.set_cons_zero, List.set_cons_succ])
        refine wpAnyH_ready (rs := [4]) (by kernel_rfl) (by simp) ?_
        refine AllReadyH.cons rfl (fun K hK => ?_) AllReadyH.nil
        go_simp
        (try go_split_ands)
        go_at_call 28
        (try go_split_ands)
        (with_reducible refine (CS1.out _ (by repeat (first | (with_reducible exact Hid.out (by assumption)) | (with_reducible exact Below.refl _ _) | (with_reducible refine Below.drew ?_)))).mono ?_)
        rintro e w' ⟨rfl, q0⟩
        (have qg : Below W13.heap.size W13 w' := by (refine next0 ?_ q0.1; repeat (first | (with_reducible exact Hid.out (by assumption)) | (with_reducible exact Below.refl _ _) | (with_reducible refine Below.drew ?_))))
        clear q0
        refine hK.out _ _ (Hb.out _ qg) (fun hHeld => ?_)
        clear hK K
        (try simp only [List.getElem_toArray, List.getElem_cons_zero, List.getElem_cons_succ, Act.put, List.setIfInBounds_toArray, List.set_cons_zero, List.set_cons_succ])
        refine wpAnyH_take (i := 5) (v := ?_) rfl (by kernel_rfl) (by kernel_rfl) (by kernel_rfl) (fun _ _ _ h => h) (Or.inl ⟨by rfl, ?_⟩) (by assumption) ?_
        rotate_left
        · intro w' hSw; (try dsimp only at hSw); (try simp only [List.getElem_toArray, List.getElem_cons_zero, List.getElem_cons_succ]); go_simp; try with_reducible rfl
        (try simp only [List.getElem_toArray, List.getElem_cons_zero, List.getElem_cons_succ, Act.put, List.setIfInBounds_toArray, List.set_cons_zero, List.set_cons_succ])
        refine wpAnyH_take (i := 6) (v := ?_) rfl (by kernel_rfl) (by kernel_rfl) (by kernel_rfl) (fun _ _ _ h => h) (Or.inl ⟨by rfl, ?_⟩) (by assumption) ?_
        rotate_left
        · intro w' hSw; (try dsimp only at hSw); (try simp only [List.getElem_toArray, List.getElem_cons_zero, List.getElem_cons_succ]); go_simp; try with_reducible rfl
        (try simp only [List.getElem_toArray, List.getElem_cons_zero, List.getElem_cons_succ, Act.put, List.setIfInBounds_toArray, List.set_cons_zero, List.set_cons_succ])
        refine wpAnyH_take (i := 7) (v := ?_) rfl (by kernel_rfl) (by kernel_rfl) (by kernel_rfl) (fun _ _ _ h => h) (Or.inl ⟨by rfl, ?_⟩) (by assumption) ?_
        rotate_left
        · intro w' hSw; (try dsimp only at hSw); (try simp only [List.getElem_toArray, List.getElem_cons_zero, List.getElem_cons_succ]); go_simp; try with_reducible rfl
        (try simp only [List.getElem_toArray, List.getElem_cons_zero, List.getElem_cons_succ, Act.put, List.setIfInBounds_toArray, List.set_cons_zero, List.set_cons_succ])
        refine wpAnyH_take (i := 8) (v := ?_) rfl (by kernel_rfl) (by kernel_rfl) (by kernel_rfl) (fun _ _ _ h => h) (Or.inl ⟨by rfl, ?_⟩) (by assumption) ?_
        rotate_left
        · intro w' hSw; (try dsimp only at hSw); (try simp only [List.getElem_toArray, List.getElem_cons_zero, List.getElem_cons_succ]); go_simp; try with_reducible rfl
        (try simp only [List.getElem_toArray, List.getElem_cons_zero, List.getElem_cons_succ, Act.put, List.setIfInBounds_toArray, List.set_cons_zero, List.set_cons_succ])
        refine wpAnyH_take (i := 9) (v := ?_) rfl (by kernel_rfl) (by kernel_rfl) (by kernel_rfl) (fun _ _ _ h => h) (Or.inl ⟨by rfl, ?_⟩) (by assumption) ?_
        rotate_left
        · intro w' hSw; (try dsimp only at hSw); (try simp only [List.getElem_toArray, List.getElem_cons_zero, List.getElem_cons_succ]); go_simp; try with_reducible rfl
        (try simp only [List.getElem_toArray, List.getElem_cons_zero, List.getElem_cons_succ, Act.put, List.setIfInBounds_toArray, List.set_cons_zero, List.set_cons_succ])
        refine wpAnyH_take (i := 10) (v := ?_) rfl (by kernel_rfl) (by kernel_rfl) (by kernel_rfl) (fun _ _ _ h => h) (Or.inl ⟨by rfl, ?_⟩) (by assumption) ?_
        rotate_left
        · intro w' hSw; (try dsimp only at hSw); (try simp only [List.getElem_toArray, List.getElem_cons_zero, List.getElem_cons_succ]); go_simp; try with_reducible rfl
        (try simp only [List.getElem_toArray, List.getElem_cons_zero, List.getElem_cons_succ, Act.put, List.setIfInBounds_toArray, List.set_cons_zero, List.set_cons_succ])
        refine wpAnyH_take (i := 11) (v := ?_) rfl (by kernel_rfl) (by kernel_rfl) (by kernel_rfl) (fun _ _ _ h => h) (Or.inl ⟨by rfl, ?_⟩) (by assumption) ?_
        rotate_left
        · intro w' hSw; (try dsimp only at hSw); (try simp only [List.getElem_toArray, List.getElem_cons_zero, List.getElem_cons_succ]); go_simp; try with_reducible rfl
        (try simp only [List.getElem_toArray, List.getElem_cons_zero, List.getElem_cons_succ, Act.put, List.setIfInBounds_toArray, List.set_cons_zero, List.set_cons_succ])
        refine wpAnyH_ready (rs := [12]) (by kernel_rfl) (by simp) ?_
        refine AllReadyH.cons rfl (fun K hK => ?_) AllReadyH.nil
        go_simp
        (try go_split_ands)
        go_at_call 28
        (try go_split_ands)
        (with_reducible refine (CS2.out _ (by repeat (first | (with_reducible exact Hid.out (by assumption)) | (with_reducible exact Below.refl _ _) | (with_reducible refine Below.drew ?_)))).mono ?_)
        rintro e w' ⟨rfl, q0⟩
        (have qg : Below W13.heap.size W13 w' := by (refine next0 ?_ q0.1; repeat (first | (with_reducible exact Hid.out (by assumption)) | (with_reducible exact Below.refl _ _) | (with_reducible refine Below.drew ?_))))
        clear q0
        refine hK.out _ _ (Hb.out _ qg) (fun hHeld => ?_)
        clear hK K
        (try simp only [List.getElem_toArray, List.getElem_cons_zero, List.getElem_cons_succ, Act.put, List.setIfInBounds_toArray, List.set_cons_zero, List.set_cons_succ])
        refine wpAnyH_take (i := 13) (v := ?_) rfl (by kernel_rfl) (by kernel_rfl) (by kernel_rfl) (fun _ _ _ h => h) (Or.inl ⟨by rfl, ?_⟩) (by assumption) ?_
        rotate_left
        · intro w' hSw; (try dsimp only at hSw); (try simp only [List.getElem_toArray, List.getElem_cons_zero, List.getElem_cons_succ]); go_simp; try with_reducible rfl
        (try simp only [List.getElem_toArray, List.getElem_cons_zero, List.getElem_cons_succ, Act.put, List.setIfInBounds_toArray, List.set_cons_zero, List.set_cons_succ])
        refine wpAnyH_take (i := 14) (v := ?_) rfl (by kernel_rfl) (by kernel_rfl) (by kernel_rfl) (fun _ _ _ h => h) (Or.inl ⟨by rfl, ?_⟩) (by assumption) ?_
        rotate_left
        · intro w' hSw; (try dsimp only at hSw); (try simp only [List.getElem_toArray, List.getElem_cons_zero, List.getElem_cons_succ]); go_simp; try with_reducible rfl
        (try simp only [List.getElem_toArray, List.getElem_cons_zero, List.getElem_cons_succ, Act.put, List.setIfInBounds_toArray, List.set_cons_zero, List.set_cons_succ])
        refine wpAnyH_take (i := 15) (v := ?_) rfl (by kernel_rfl) (by kernel_rfl) (by kernel_rfl) (fun _ _ _ h => h) (Or.inl ⟨by rfl, ?_⟩) (by assumption) ?_
        rotate_left
        · intro w' hSw; (try dsimp only at hSw); (try simp only [List.getElem_toArray, List.getElem_cons_zero, List.getElem_cons_succ]); go_simp; try with_reducible rfl
        (try simp only [List.getElem_toArray, List.getElem_cons_zero, List.getElem_cons_succ, Act.put, List.setIfInBounds_toArray, List.set_cons_zero, List.set_cons_succ])
        refine wpAnyH_take (i := 16) (v := ?_) rfl (by kernel_rfl) (by kernel_rfl) (by kernel_rfl) (fun _ _ _ h => h) (Or.inl ⟨by rfl, ?_⟩) (by assumption) ?_
        rotate_left
        · intro w' hSw; (try dsimp only at hSw); (try simp only [List.getElem_toArray, List.getElem_cons_zero, List.getElem_cons_succ]); go_simp; try with_reducible rfl
        (try simp only [List.getElem_toArray, List.getElem_cons_zero, List.getElem_cons_succ, Act.put, List.setIfInBounds_toArray, List.set_cons_zero, List.set_cons_succ])
        refine wpAnyH_take (i := 17) (v := ?_) rfl (by kernel_rfl) (by kernel_rfl) (by kernel_rfl) (fun _ _ _ h => h) (Or.inl ⟨by rfl, ?_⟩) (by assumption) ?_
        rotate_left
        · intro w' hSw; (try dsimp only at hSw); (try simp only [List.getElem_toArray, List.getElem_cons_zero, List.getElem_cons_succ]); go_simp; try with_reducible rfl
        (try simp only [List.getElem_toArray, List.getElem_cons_zero, List.getElem_cons_succ, Act.put, List.setIfInBounds_toArray, List.set_cons_zero, List.set_cons_succ])
        refine wpAnyH_take (i := 18) (v := ?_) rfl (by kernel_rfl) (by kernel_rfl) (by kernel_rfl) (fun _ _ _ h => h) (Or.inl ⟨by rfl, ?_⟩) (by assumption) ?_
        rotate_left
        · intro w' hSw; (try dsimp only at hSw); (try simp only [List.getElem_toArray, List.getElem_cons_zero, List.getElem_cons_succ]); go_simp; try with_reducible rfl
        (try simp only [List.getElem_toArray, List.getElem_cons_zero, List.getElem_cons_succ, Act.put, List.setIfInBounds_toArray, List.set_cons_zero, List.set_cons_succ])
        refine wpAnyH_take (i := 19) (v := ?_) rfl (by kernel_rfl) (by kernel_rfl) (by kernel_rfl) (fun _ _ _ h => h) (Or.inl ⟨by rfl, ?_⟩) (by assumption) ?_
        rotate_left
        · intro w' hSw; (try dsimp only at hSw); (try simp only [List.getElem_toArray, List.getElem_cons_zero, List.getElem_cons_succ]); go_simp; try with_reducible rfl
        (try simp only [List.getElem_toArray, List.getElem_cons_zero, List.getElem_cons_succ, Act.put, List.setIfInBounds_toArray, List.set_cons_zero, List.set_cons_succ])
        refine wpAnyH_take (i := 20) (v := ?_) rfl (by kernel_rfl) (by kernel_rfl) (by kernel_rfl) (fun _ _ _ h => h) (Or.inl ⟨by rfl, ?_⟩) (by assumption) ?_
        rotate_left
        · intro w' hSw; (try dsimp only at hSw); (try simp only [List.getElem_toArray, List.getElem_cons_zero, List.getElem_cons_succ]); go_simp; try with_reducible rfl
        (try simp only [List.getElem_toArray, List.getElem_cons_zero, List.getElem_cons_succ, Act.put, List.setIfInBounds_toArray, List.set_cons_zero, List.set_cons_succ])
        refine wpAnyH_take (i := 21) (v := ?_) rfl (by kernel_rfl) (by kernel_rfl) (by kernel_rfl) (fun _ _ _ h => h) (Or.inl ⟨by rfl, ?_⟩) (by assumption) ?_
        rotate_left
        · intro w' hSw; (try dsimp only at hSw); (try simp only [List.getElem_toArray, List.getElem_cons_zero, List.getElem_cons_succ]); go_simp; try with_reducible rfl
        (try simp only [List.getElem_toArray, List.getElem_cons_zero, List.getElem_cons_succ, Act.put, List.setIfInBounds_toArray, List.set_cons_zero, List.set_cons_succ])
        refine wpAnyH_ready (rs := [22]) (by kernel_rfl) (by simp) ?_
        refine AllReadyH.cons rfl (fun K hK => ?_) AllReadyH.nil
        go_simp
        (try go_split_ands)
        go_at_call 37
        (try go_split_ands)
        (with_reducible refine (F7.out _).mono ?_)
        rintro e w' ⟨q22, d22, rfl, s9, q0⟩
        have S22 := Lib.hid s9
        (have qg : Below W13.heap.size W13 w' := by (refine next0 ?_ q0; repeat (first | (with_reducible exact Hid.out (by assumption)) | (with_reducible exact Below.refl _ _) | (with_reducible refine Below.drew ?_))))
        have Q22 := Lib.hid qg
        clear q0 s9
        refine hK.out _ _ (Hb.out _ qg) (fun hHeld => ?_)
        clear hK K
        (try simp only [List.getElem_toArray, List.getElem_cons_zero, List.getElem_cons_succ, Act.put, List.setIfInBounds_toArray, List.set_cons_zero, List.set_cons_succ])
        refine wpAnyH_ready (rs := [23]) (by kernel_rfl) (by simp) ?_
        refine AllReadyH.cons rfl (fun K hK => ?_) AllReadyH.nil
        go_simp
        (try go_split_ands)
        go_at_call 18
        (try go_split_ands)
        (with_reducible refine (CT1.out _ _ _ Q22.out S22.out).mono ?_)
        rintro e w' ⟨rfl, q0⟩
        (have qg : Below W13.heap.size W13 w' := next0 Q22.out q0.1)
        clear q0
        refine hK.out _ _ (Hb.out _ qg) (fun hHeld => ?_)
        clear hK K
        (try simp only [List.getElem_toArray, List.getElem_cons_zero, List.getElem_cons_succ, Act.put, List.setIfInBounds_toArray, List.set_cons_zero, List.set_cons_succ])
        refine wpAnyH_take (i := 24) (v := ?_) rfl (by kernel_rfl) (by kernel_rfl) (by kernel_rfl) (fun _ _ _ h => h) (Or.inl ⟨by rfl, ?_⟩) (by assumption) ?_
        rotate_left
        · intro w' hSw; (try dsimp only at hSw); (try simp only [List.getElem_toArray, List.getElem_cons_zero, List.getElem_cons_succ]); go_simp; try with_reducible rfl
        (try simp only [List.getElem_toArray, List.getElem_cons_zero, List.getElem_cons_succ, Act.put, List.setIfInBounds_toArray, List.set_cons_zero, List.set_cons_succ])
        refine wpAnyH_take (i := 25) (v := ?_) rfl (by kernel_rfl) (by kernel_rfl) (by kernel_rfl) (fun _ _ _ h => h) (Or.inl ⟨by rfl, ?_⟩) (by assumption) ?_
        rotate_left
        · intro w' hSw; (try dsimp only at hSw); (try simp only [List.getElem_toArray, List.getElem_cons_zero, List.getElem_cons_succ]); go_simp; try with_reducible rfl
        (try simp only [List.getElem_toArray, List.getElem_cons_zero, List.getElem_cons_succ, Act.put, List.setIfInBounds_toArray, List.set_cons_zero, List.set_cons_succ])
        refine wpAnyH_take (i := 26) (v := ?_) rfl (by kernel_rfl) (by kernel_rfl) (by kernel_rfl) (fun _ _ _ h => h) (Or.inl ⟨by rfl, ?_⟩) (by assumption) ?_
        rotate_left
        · intro w' hSw; (try dsimp only at hSw); (try simp only [List.getElem_toArray, List.getElem_cons_zero, List.getElem_cons_succ]); go_simp; try with_reducible rfl
        (try simp only [List.getElem_toArray, List.getElem_cons_zero, List.getElem_cons_succ, Act.put, List.setIfInBounds_toArray, List.set_cons_zero, List.set_cons_succ])
        refine wpAnyH_ready (rs := [27]) (by kernel_rfl) (by simp) ?_
        refine AllReadyH.cons rfl (fun K hK => ?_) AllReadyH.nil
        go_simp
        (try go_split_ands)
        go_at_call 15
        (try go_split_ands)
        (with_reducible refine (CV1.out _ (by repeat (first | (with_reducible exact Hid.out (by assumption)) | (with_reducible exact Below.refl _ _) | (with_reducible refine Below.drew ?_)))).mono ?_)
        rintro e w' ⟨rfl, q0⟩
        (have qg : Below W13.heap.size W13 w' := by (refine next0 ?_ q0.1; repeat (first | (with_reducible exact Hid.out (by assumption)) | (with_reducible exact Below.refl _ _) | (with_reducible refine Below.drew ?_))))
        clear q0
        refine hK.out _ _ (Hb.out _ qg) (fun hHeld => ?_)
        clear hK K
        (try simp only [List.getElem_toArray, List.getElem_cons_zero, List.getElem_cons_succ, Act.put, List.setIfInBounds_toArray, List.set_cons_zero, List.set_cons_succ])
        refine wpAnyH_take (i := 28) (v := ?_) rfl (by kernel_rfl) (by kernel_rfl) (by kernel_rfl) (fun _ _ _ h => h) (Or.inl ⟨by rfl, ?_⟩) (by assumption) ?_
        rotate_left
        · intro w' hSw; (try dsimp only at hSw); (try simp only [List.getElem_toArray, List.getElem_cons_zero, List.getElem_cons_succ]); go_simp; try with_reducible rfl
        (try simp only [List.getElem_toArray, List.getElem_cons_zero, List.getElem_cons_succ, Act.put, List.setIfInBounds_toArray, List.set_cons_zero, List.set_cons_succ])
        refine wpAnyH_take (i := 29) (v := ?_) rfl (by kernel_rfl) (by kernel_rfl) (by kernel_rfl) (fun _ _ _ h => h) (Or.inl ⟨by rfl, ?_⟩) (by assumption) ?_
        rotate_left
        · intro w' hSw; (try dsimp only at hSw); (try simp only [List.getElem_toArray, List.getElem_cons_zero, List.getElem_cons_succ]); go_simp; try with_reducible rfl
        (try simp only [List.getElem_toArray, List.getElem_cons_zero, List.getElem_cons_succ, Act.put, List.setIfInBounds_toArray, List.set_cons_zero, List.set_cons_succ])
        refine wpAnyH_take (i := 30) (v := ?_) rfl (by kernel_rfl) (by kernel_rfl) (by kernel_rfl) (fun _ _ _ h => h) (Or.inl ⟨by rfl, ?_⟩) (by assumption) ?_
        rotate_left
        · intro w' hSw; (try dsimp only at hSw); (try simp only [List.getElem_toArray, List.getElem_cons_zero, List.getElem_cons_succ]); go_simp; try with_reducible rfl
        (try simp only [List.getElem_toArray, List.getElem_cons_zero, List.getElem_cons_succ, Act.put, List.setIfInBounds_toArray, List.set_cons_zero, List.set_cons_succ])
        refine wpAnyH_take (i := 31) (v := ?_) rfl (by kernel_rfl) (by kernel_rfl) (by kernel_rfl) (fun _ _ _ h => h) (Or.inl ⟨by rfl, ?_⟩) (by assumption) ?_
        rotate_left
        · intro w' hSw; (try dsimp only at hSw); (try simp only [List.getElem_toArray, List.getElem_cons_zero, List.getElem_cons_succ]); go_simp; try with_reducible rfl
        (try simp only [List.getElem_toArray, List.getElem_cons_zero, List.getElem_cons_succ, Act.put, List.setIfInBounds_toArray, List.set_cons_zero, List.set_cons_succ])
        refine wpAnyH_take (i := 32) (v := ?_) rfl (by kernel_rfl) (by kernel_rfl) (by kernel_rfl) (fun _ _ _ h => h) (Or.inl ⟨by rfl, ?_⟩) (by assumption) ?_
        rotate_left
        · intro w' hSw; (try dsimp only at hSw); (try simp only [List.getElem_toArray, List.getElem_cons_zero, List.getElem_cons_succ]); go_simp; try with_reducible rfl
        (try simp only [List.getElem_toArray, List.getElem_cons_zero, List.getElem_cons_succ, Act.put, List.setIfInBounds_toArray, List.set_cons_zero, List.set_cons_succ])
        refine wpAnyH_take (i := 33) (v := ?_) rfl (by kernel_rfl) (by kernel_rfl) (by kernel_rfl) (fun _ _ _ h => h) (Or.inl ⟨by rfl, ?_⟩) (by assumption) ?_
        rotate_left
        · intro w' hSw; (try dsimp only at hSw); (try simp only [List.getElem_toArray, List.getElem_cons_zero, List.getElem_cons_succ]); go_simp; try with_reducible rfl
        (try simp only [List.getElem_toArray, List.getElem_cons_zero, List.getElem_cons_succ, Act.put, List.setIfInBounds_toArray, List.set_cons_zero, List.set_cons_succ])
        refine wpAnyH_take (i := 34) (v := ?_) rfl (by kernel_rfl) (by kernel_rfl) (by kernel_rfl) (fun _ _ _ h => h) (Or.inl ⟨by rfl, ?_⟩) (by assumption) ?_
        rotate_left
        · intro w' hSw; (try dsimp only at hSw); (try simp only [List.getElem_toArray, List.getElem_cons_zero, List.getElem_cons_succ]); go_simp; try with_reducible rfl
        (try simp only [List.getElem_toArray, List.getElem_cons_zero, List.getElem_cons_succ, Act.put, List.setIfInBounds_toArray, List.set_cons_zero, List.set_cons_succ])
        refine wpAnyH_take (i := 35) (v := ?_) rfl (by kernel_rfl) (by kernel_rfl) (by kernel_rfl) (fun _ _ _ h => h) (Or.inl ⟨by rfl, ?_⟩) (by assumption) ?_
        rotate_left
        · intro w' hSw; (try dsimp only at hSw); (try simp only [List.getElem_toArray, List.getElem_cons_zero, List.getElem_cons_succ]); go_simp; try with_reducible rfl
        (try simp only [List.getElem_toArray, List.getElem_cons_zero, List.getElem_cons_succ, Act.put, List.setIfInBounds_toArray, List.set_cons_zero, List.set_cons_succ])
        refine wpAnyH_take (i := 36) (v := ?_) rfl (by kernel_rfl) (by kernel_rfl) (by kernel_rfl) (fun _ _ _ h => h) (Or.inl ⟨by rfl, ?_⟩) (by assumption) ?_
        rotate_left
        · intro w' hSw; (try dsimp only at hSw); (try simp only [List.getElem_toArray, List.getElem_cons_zero, List.getElem_cons_succ]); go_simp; try with_reducible rfl
        (try simp only [List.getElem_toArray, List.getElem_cons_zero, List.getElem_cons_succ, Act.put, List.setIfInBounds_toArray, List.set_cons_zero, List.set_cons_succ])
        refine wpAnyH_ready (rs := [37]) (by kernel_rfl) (by simp) ?_
        refine AllReadyH.cons rfl (fun K hK => ?_) AllReadyH.nil
        go_simp
        (try go_split_ands)
        go_at_call 37
        (try go_split_ands)
        (with_reducible refine (F8.out _).mono ?_)
        rintro e w' ⟨q37, d37, rfl, s9, q0⟩
        have S37 := Lib.hid s9
        (have qg : Below W13.heap.size W13 w' := by (refine next0 ?_ q0; repeat (first | (with_reducible exact Hid.out (by assumption)) | (with_reducible exact Below.refl _ _) | (with_reducible refine Below.drew ?_))))
        have Q37 := Lib.hid qg
        clear q0 s9
        refine hK.out _ _ (Hb.out _ qg) (fun hHeld => ?_)
        clear hK K
        (try simp only [List.getElem_toArray, List.getElem_cons_zero, List.getElem_cons_succ, Act.put, List.setIfInBounds_toArray, List.set_cons_zero, List.set_cons_succ])
        refine wpAnyH_ready (rs := [38]) (by kernel_rfl) (by simp) ?_
        refine AllReadyH.cons rfl (fun K hK => ?_) AllReadyH.nil
        go_simp
        (try go_split_ands)
        go_at_call 18
        (try go_split_ands)
        (with_reducible refine (CT2.out _ _ _ Q37.out S37.out).mono ?_)
        rintro e w' ⟨rfl, q0⟩
        (have qg : Below W13.heap.size W13 w' := next0 Q37.out q0.1)
        clear q0
        refine hK.out _ _ (Hb.out _ qg) (fun hHeld => ?_)
        clear hK K
        (try simp only [List.getElem_toArray, List.getElem_cons_zero, List.getElem_cons_succ, Act.put, List.setIfInBounds_toArray, List.set_cons_zero, List.set_cons_succ])
        refine wpAnyH_take (i := 39) (v := ?_) rfl (by kernel_rfl) (by kernel_rfl) (by kernel_rfl) (fun _ _ _ h => h) (Or.inl ⟨by rfl, ?_⟩) (by assumption) ?_
        rotate_left
        · intro w' hSw; (try dsimp only at hSw); (try simp only [List.getElem_toArray, List.getElem_cons_zero, List.getElem_cons_succ]); go_simp; try with_reducible rfl
        (try simp only [List.getElem_toArray, List.getElem_cons_zero, List.getElem_cons_succ, Act.put, List.setIfInBounds_toArray, List.set_cons_zero, List.set_cons_succ])
        refine wpAnyH_take (i := 40) (v := ?_) rfl (by kernel_rfl) (by kernel_rfl) (by kernel_rfl) (fun _ _ _ h => h) (Or.inl ⟨by rfl, ?_⟩) (by assumption) ?_
        rotate_left
        · intro w' hSw; (try dsimp only at hSw); (try simp only [List.getElem_toArray, List.getElem_cons_zero, List.getElem_cons_succ]); go_simp; try with_reducible rfl
        (try simp only [List.getElem_toArray, List.getElem_cons_zero, List.getElem_cons_succ, Act.put, List.setIfInBounds_toArray, List.set_cons_zero])
        refine wpAnyH_done (by kernel_rfl) ?_ _
        go_wp2_with fail
        go_ret
        exact ⟨rfl, FIN.out _ qg⟩
end UnmL
end Go.Proofs.YtaenalpckloikaaGreatDoor
