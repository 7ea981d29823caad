/- Texts laid together: NosG; NosH; NosI. Their own heads stand before each. -/
import Derived.Test.YtdkpflojdnkbnaaGreatDoorHCB
import Derived.Test.YtdkpflojdnkbnaaGreatDoorRulSh
import Derived.Test.YtdkpflojdnkbnaaGreatDoorHCD
import Derived.Test.YtdkpflojdnkbnaaGreatDoorHAK
import Derived.Deep.AppendLies
/- The library's sort at rules, under Compare: the row holds them again, ascending. Conditions: the row is the caller's own; fewer than 2^62 rules, at least one. -/
namespace Go.Proofs.YtdkpflojdnkbnaaGreatDoor
open Go Go.RowKit Go.Sort Go.Lib Go.Shelf
namespace NosG
open LexM TermM TermI Kit TermN TermQ TermR TermU UniK UniM UnpP NorM NorA NosA
/-- A rule with the slice values of its lists, that lies in blocks of a kind. -/
abbrev ElR (ok : Nat → Prop) (w : World) := { x : Rl × Value × Value // KR.inn ok w x }
def encR {ok : Nat → Prop} {w : World} (x : ElR ok w) : List Value := KR.cells x.1
def cfR {ok : Nat → Prop} {w : World} (x y : ElR ok w) : Int := cmpR x.1.1 y.1.1
theorem swoR {ok : Nat → Prop} {w : World} : SWO (ltOf (cfR (ok := ok) (w := w))) where
  irrefl x := by unfold ltOf cfR; rw [(r_zero _ _).2 rfl]; rfl
  trans x y z h1 h2 := by
    unfold ltOf cfR at *
    have := tri_r x.1.1 y.1.1 z.1.1
    unfold Tri at this
    simp at *
    omega
  ntrans x y z h1 h2 := by
    unfold ltOf cfR at *
    have := tri_r x.1.1 y.1.1 z.1.1
    unfold Tri at this
    simp at *
    omega
theorem isAggR : ∀ w, (Go.isAgg (Tryz.sortR_ren.t 24)).run Tryz.prog w = .ok true w := fun w => by kernel_rfl
theorem sizeOfR : ∀ w, (Go.sizeOf (Tryz.sortR_ren.t 24)).run Tryz.prog w = .ok 3 w := fun w => by kernel_rfl
/-- What the sort leaves. -/
def SrtdR (ok : Nat → Prop) (g : Nat) (L : List (Rl × Value × Value)) (w : World) (e : Ending) (w' : World) : Prop :=
  ∃ L' : List (Rl × Value × Value), e = .returned (.tuple #[]) ∧ L'.Perm L ∧ (∀ (i j : Nat) (x y : Rl × Value × Value), i < j → L'[i]? = some x → L'[j]? = some y → cmpR x.1 y.1 ≤ 0) ∧
    Hd w' g (KR.flat L') ∧ (∀ x ∈ L', KR.inn ok w' x) ∧ Ch g w w'
set_option maxHeartbeats 1600000 in
theorem sortr_any (ok : Nat → Prop) (w : World) (base g cap : Nat) (L : List (Rl × Value × Value)) (hok : ∀ b, ok b → b < w.heap.size ∧ b ≠ g) (hL : ∀ x ∈ L, KR.inn ok w x)
    (hown : w.ownsRow base 27 3 (.slice (some ⟨g, 0, none⟩) L.length cap) L.length (KR.flat L)) (hz : L.length < 4611686018427387904) (hne : L ≠ []) :
    Calls Tryz.prog 49 #[.slice (some ⟨g, 0, none⟩) L.length cap, .func (.func 12) #[] #[]] w (SrtdR ok g L w) := by
  have hgl := (hown.lt g rfl).2
  let D : List (ElR ok w) := L.attach.map fun x => ⟨x.1, hL x.1 x.2⟩
  have hDL : D.map (·.1) = L := by simp only [D, List.map_map, Function.comp_def]; exact List.attach_map_subtype_val L
  have hDl : D.length = L.length := by rw [← hDL]; simp
  obtain ⟨x0, hx0⟩ : ∃ x0, x0 ∈ D := by
    cases hD : D with
    | nil => rw [hD] at hDl; exact absurd (List.eq_nil_of_length_eq_zero hDl.symm) hne
    | cons a r => exact ⟨a, by simp⟩
  letI : Inhabited (ElR ok w) := ⟨x0⟩
  have hget : ∀ (i : Nat) (x : Rl × Value × Value), L[i]? = some x → (D.toArray[i]!).1 = x := by
    intro i x hx
    rw [← hDL, List.getElem?_map] at hx
    obtain ⟨y, h1, h2⟩ := Option.map_eq_some_iff.1 hx
    have hi := (List.getElem?_eq_some_iff.1 h1)
    obtain ⟨hi, h3⟩ := hi
    rw [getElem!_pos _ i (by simpa using hi)]
    simp [h3, h2]
  have hH : HoldsK encR 3 w g 0 D.toArray := by
    intro j hj
    rw [size_flatK] at hj
    have hj' : j < L.length * 3 := by rw [← hDl]; simpa using hj
    rw [get_flatK _ _ _ _ hj]
    obtain ⟨x, hx⟩ : ∃ x, L[j / 3]? = some x := ⟨L[j / 3]'(by omega), by simp⟩
    have he := hget _ x hx
    have h3 : j % 3 < (KR.cells x).length := by rw [KR.len]; omega
    have f := flat_get (K := KR) L (j / 3) x hx (j % 3) ((KR.cells x)[j % 3]) (List.getElem?_eq_getElem h3)
    rw [show j / 3 * 3 + j % 3 = j by omega] at f
    refine ⟨?_, hown.frozenAt _⟩
    rw [Nat.zero_add, hown.cellAt j hj', f]
    unfold encR
    rw [he, getElem!_pos (KR.cells x) (j % 3) h3]
    rfl
  have hcmp : CmpLays Tryz.prog 12 #[] (encR (ok := ok) (w := w)) 3 cfR g 0 D.toArray.size w := by
    intro m os dk hdk x y
    have fr : ∀ b o, ok b → (sortWorldK encR 3 w g 0 m dk os).cell? ⟨b, o, none⟩ = w.cell? ⟨b, o, none⟩ := fun b o hb => cell_sortK _ _ _ _ _ _ _ _ _ (hok b hb).2 (hok b hb).1
    have hc := cmpr_any x.1.1.1 y.1.1.1 x.1.1.2 y.1.1.2 w.heap.size (sortWorldK encR 3 w g 0 m dk os) x.1.2.1 y.1.2.1 x.1.2.2 y.1.2.2 (size_sortWorldK_c encR 3 w g 0 m dk os) ((x.2.1.frame fr).weaken fun b hb => (hok b hb).1) ((y.2.1.frame fr).weaken fun b hb => (hok b hb).1) x.2.2.1 y.2.2.1 ((x.2.2.2.keep fr).wide fun b hb => (hok b hb).1) ((y.2.2.2.keep fr).wide fun b hb => (hok b hb).1)
    exact hc.mono fun e w' ⟨he, hg⟩ => ⟨he, TermP.Gr.grow hg⟩
  have eg : ∀ args w, (callFunc 12 args).run Tryz.prog w = .ok (.enter 12 args) w := enters_of Tryz.func12 (by kernel_rfl) rfl
  have hcon := AnyQ.slices_SortFunc Tryz.sortR 3 isAggR sizeOfR (encR (ok := ok) (w := w)) (fun _ => rfl) (fun x v hv => by
    obtain ⟨p, c, hf⟩ := x.2.1.form
    obtain ⟨p', c', hf'⟩ := x.2.2.2.form
    have hv' : v ∈ [Value.string x.1.1.1.nm, x.1.2.1, x.1.2.2] := hv
    rw [hf, hf'] at hv'
    exact one_R _ _ _ _ _ _ _ v hv') cfR swoR 12 #[] g 0 cap D.toArray w eg hcmp hH hgl (by simp [hDl]; omega)
  have hsz : D.toArray.size = L.length := by simp [hDl]
  rw [hsz] at hcon
  refine Calls.mono (show Calls Tryz.prog 49 _ w _ from hcon) ?_
  rintro e w' ⟨he, d', n, os, hp, hs, rfl⟩
  obtain ⟨p1, p2, p3⟩ := hp
  have e1 : (d'.extract 0 L.length).toList = d'.toList := by rw [← hsz, ← p1]; simp
  have e2 : (D.toArray.extract 0 L.length).toList = D := by rw [← hsz]; simp
  rw [e1, e2] at p3
  have hlen : d'.toList.length = L.length := by rw [← hsz, ← p1]; simp
  have hH' := holdsK_sortWorldK_c encR 3 w g 0 D.toArray d' n os hH hgl p1
  have hat : ∀ (i : Nat) (y : ElR ok w), d'.toList[i]? = some y → i < d'.size ∧ d'[i]! = y := by
    intro i y hy
    obtain ⟨hi, h2⟩ := List.getElem?_eq_some_iff.1 hy
    have hi' : i < d'.size := by simpa using hi
    exact ⟨hi', by rw [getElem!_pos _ i hi']; simpa using h2⟩
  have key : ∀ (i : Nat) (x : Rl × Value × Value), (d'.toList.map (·.1))[i]? = some x → ∃ y : ElR ok w, d'.toList[i]? = some y ∧ y.1 = x := by
    intro i x hx
    rw [List.getElem?_map] at hx
    obtain ⟨y, a, b⟩ := Option.map_eq_some_iff.1 hx
    exact ⟨y, a, b⟩
  refine ⟨d'.toList.map (·.1), he, ?_, ?_, ?_, ?_, ch_sortK _ _ _ _ _ _ _⟩
  · have := p3.map (·.1)
    rwa [hDL] at this
  · intro i j x y hij hx hy
    obtain ⟨x', hx', rfl⟩ := key i x hx
    obtain ⟨y', hy', rfl⟩ := key j y hy
    obtain ⟨a1, a2⟩ := hat i x' hx'
    obtain ⟨b1, b2⟩ := hat j y' hy'
    have h := hs i j (Nat.zero_le _) hij (by omega)
    rw [a2, b2] at h
    unfold ltOf cfR at h
    have h2 := r_neg y'.1.1 x'.1.1
    simp at h
    omega
  · intro j u hu
    have hj : j < (d'.toList.map (·.1)).length * 3 := by
      have := (List.getElem?_eq_some_iff.1 hu).1
      rwa [flat_len] at this
    obtain ⟨x, hx⟩ : ∃ x, (d'.toList.map (·.1))[j / 3]? = some x := ⟨(d'.toList.map (·.1))[j / 3]'(by omega), by rw [List.getElem?_eq_getElem (by omega)]⟩
    obtain ⟨y, hy, rfl⟩ := key _ x hx
    obtain ⟨a1, a2⟩ := hat _ y hy
    have h3 : j % 3 < (KR.cells y.1).length := by rw [KR.len]; omega
    have f := flat_get (K := KR) (d'.toList.map (·.1)) (j / 3) y.1 hx (j % 3) ((KR.cells y.1)[j % 3]) (List.getElem?_eq_getElem h3)
    rw [show j / 3 * 3 + j % 3 = j by omega] at f
    rw [f] at hu
    obtain rfl := Option.some.inj hu
    have c := hH'.cell (i := j / 3) (c := j % 3) a1 (by omega)
    rw [show 0 + j / 3 * 3 + j % 3 = j by omega, a2] at c
    unfold encR at c
    rw [getElem!_pos (KR.cells y.1) (j % 3) h3] at c
    exact c
  · intro x hx
    obtain ⟨y, hy, rfl⟩ := List.mem_map.1 hx
    exact KR.keep y.2 fun b o hb => cell_sortK _ _ _ _ _ _ _ _ _ (hok b hb).2 (hok b hb).1
end NosG
end Go.Proofs.YtdkpflojdnkbnaaGreatDoor
/- Rules of the code: the normal form of a description, or the error. Conditions: term.Text's table is laid. -/
namespace Go.Proofs.YtdkpflojdnkbnaaGreatDoor
open Go Go.RowKit Go.Maps Go.WideMaps
namespace NosH
open Kit LexM TermM TermI TermN TermU TermL TermE TermF TermT UniK UniM UniA UnpP NorB NorC NorD NorM NorA NorH NosA NosG NosP NosF NosV
/-! ### The texts that were met -/
def txt (x : Rl) : ByteArray := bs (ruleX x)
theorem has_txt {M : List Rl} {x : Rl} (hM : ∀ y ∈ M, vlB y = true) (hx : vlB x = true) : hasB (M.map txt) (txt x) = true ↔ x ∈ M := by
  unfold hasB
  rw [List.any_eq_true]
  constructor
  · rintro ⟨s, hs, he⟩
    obtain ⟨y, hy, rfl⟩ := List.mem_map.1 hs
    rw [beq_iff_eq] at he
    unfold txt at he
    rw [bs_list, bs_list] at he
    rw [← NosT.rule_inj (hM y hy) hx he]
    exact hy
  · intro h
    exact ⟨txt x, List.mem_map.2 ⟨x, h, rfl⟩, by simp⟩
/-- What the loop of Rules has found after k rules. -/
def FI (l : List Rl) (k : Nat) (M : List Rl) : Prop := (∀ r ∈ l.take k, codeN r = 0) ∧ M.Nodup ∧ (∀ x ∈ M, vlB x = true) ∧ ∀ x, x ∈ M ↔ ∃ r ∈ l.take k, NfOf r x
theorem FI.start (l : List Rl) : FI l 0 [] := ⟨by simp, by simp, by simp, by simp⟩
theorem take_mem {l : List Rl} {k : Nat} {r : Rl} (h : l[k]? = some r) (x : Rl) : x ∈ l.take (k + 1) ↔ x ∈ l.take k ∨ x = r := by rw [take_get l k r h]; simp
theorem FI.old {l : List Rl} {k : Nat} {M : List Rl} (h : FI l k M) {r x : Rl} (hr : l[k]? = some r) (h0 : codeN r = 0) (hx : NfOf r x) (hm : x ∈ M) : FI l (k + 1) M := by
  obtain ⟨a1, a2, a3, a4⟩ := h
  refine ⟨fun y hy => ?_, a2, a3, fun y => ⟨fun hy => ?_, ?_⟩⟩
  · rcases (take_mem hr y).1 hy with h | rfl
    · exact a1 y h
    · exact h0
  · obtain ⟨z, hz, hn⟩ := (a4 y).1 hy
    exact ⟨z, (take_mem hr z).2 (Or.inl hz), hn⟩
  · rintro ⟨z, hz, hn⟩
    rcases (take_mem hr z).1 hz with h | rfl
    · exact (a4 y).2 ⟨z, h, hn⟩
    · rw [nf_det hn hx]; exact hm
theorem FI.new {l : List Rl} {k : Nat} {M : List Rl} (h : FI l k M) {r x : Rl} (hr : l[k]? = some r) (h0 : codeN r = 0) (hx : NfOf r x) (hm : x ∉ M) : FI l (k + 1) (M ++ [x]) := by
  obtain ⟨a1, a2, a3, a4⟩ := h
  refine ⟨fun y hy => ?_, ?_, fun y hy => ?_, fun y => ⟨fun hy => ?_, ?_⟩⟩
  · rcases (take_mem hr y).1 hy with h | rfl
    · exact a1 y h
    · exact h0
  · rw [List.nodup_append]
    refine ⟨a2, by simp, fun a ha b hb e => ?_⟩
    obtain rfl := List.mem_singleton.1 hb
    exact hm (e ▸ ha)
  · rcases List.mem_append.1 hy with h | h
    · exact a3 y h
    · obtain rfl := List.mem_singleton.1 h
      exact nf_vl hx h0
  · rcases List.mem_append.1 hy with h | h
    · obtain ⟨z, hz, hn⟩ := (a4 y).1 h
      exact ⟨z, (take_mem hr z).2 (Or.inl hz), hn⟩
    · obtain rfl := List.mem_singleton.1 h
      exact ⟨r, (take_mem hr r).2 (Or.inr rfl), hx⟩
  · rintro ⟨z, hz, hn⟩
    rcases (take_mem hr z).1 hz with h | rfl
    · exact List.mem_append_left _ ((a4 y).2 ⟨z, h, hn⟩)
    · rw [nf_det hn hx]; simp
theorem FI.fin {l M m : List Rl} (hl : l.length ≤ 128) (h : FI l l.length M) (hp : m.Perm M) (hs : ∀ (i j : Nat) (x y : Rl), i < j → m[i]? = some x → m[j]? = some y → cmpR x y ≤ 0) : codeL l = 0 ∧ RsOf l m := by
  obtain ⟨a1, a2, a3, a4⟩ := h
  rw [List.take_length] at a1 a4
  have hc : codeL l = 0 := by unfold codeL; rw [if_neg (by omega)]; exact first_ok a1
  have hnd : m.Nodup := hp.nodup_iff.2 a2
  refine ⟨hc, fun _ => ⟨?_, fun x => hp.mem_iff.trans (a4 x)⟩, fun e => absurd hc e⟩
  refine List.pairwise_iff_getElem.2 fun i j hi hj hij => ?_
  have h1 := hs i j m[i] m[j] hij (List.getElem?_eq_getElem hi) (List.getElem?_eq_getElem hj)
  have h2 := List.pairwise_iff_getElem.1 (List.nodup_iff_pairwise_ne.1 hnd) i j hi hj hij
  have h3 : cmpR m[i] m[j] ≠ 0 := fun e => h2 ((r_zero _ _).1 e)
  omega
theorem code_bad {l : List Rl} {k : Nat} {r : Rl} {M : List Rl} (hl : l.length ≤ 128) (hr : l[k]? = some r) (h : FI l k M) (h0 : codeN r ≠ 0) : codeL l = codeN r := by
  unfold codeL
  rw [if_neg (by omega)]
  exact first_bad hr h.1 h0
/-! ### The sort of a row of one's own -/
theorem sortn (p : Option Addr) (c : Nat) (w : World) : Calls Tryz.prog 49 #[.slice p 0 c, .func (.func 12) #[] #[]] w fun e w' => e = .returned (.tuple #[]) ∧ w' = w :=
  AnyF.slices_SortFunc_none Tryz.sortR p c (.func (.func 12) #[] #[]) w
def SortR (base : Nat) (F : List (Rl × Value × Value)) (v : Value) (w : World) (e : Ending) (w' : World) : Prop :=
  ∃ F' : List (Rl × Value × Value), e = .returned (.tuple #[]) ∧ F'.Perm F ∧ (∀ (i j : Nat) (x y : Rl × Value × Value), i < j → F'[i]? = some x → F'[j]? = some y → cmpR x.1 y.1 ≤ 0) ∧ RowG KR (fun b => base ≤ b ∧ b < w.heap.size) w' F' v ∧ Below base w w'
theorem sort_own (base : Nat) (w : World) (F : List (Rl × Value × Value)) (v : Value) (hO : OwnG KR base w F v) (hl : F.length ≤ 1000) (hb : base ≤ w.heap.size) :
    Calls Tryz.prog 49 #[v, .func (.func 12) #[] #[]] w (SortR base F v w) := by
  obtain ⟨h1, ok, h2, h3⟩ := hO
  have h0 := h1
  rcases h1.2 with ⟨rfl, hz⟩ | ⟨g, cap, cur, rfl, e2, e3, e4, e5, e6, e7⟩
  · obtain rfl : F = [] := List.eq_nil_of_length_eq_zero hz
    refine (sortn none 0 w).mono ?_
    rintro e w' ⟨rfl, rfl⟩
    exact ⟨[], rfl, List.Perm.refl _, fun i j x y _ h => by simp at h, RowG.nil _ _, Below.refl _ _⟩
  · have hgl := (h0.lt g rfl).2
    by_cases hne : F = []
    · subst hne
      refine (sortn (some ⟨g, 0, none⟩) cap w).mono ?_
      rintro e w' ⟨rfl, rfl⟩
      exact ⟨[], rfl, List.Perm.refl _, fun i j x y _ h => by simp at h, ⟨_, cap, rfl, e4, e5, fun x h => by simp at h, fun h => by simp at h⟩, Below.refl _ _⟩
    · refine (sortr_any ok w base g cap F (fun b hb => ⟨(h2 b hb).2.1, fun e => (h2 b hb).2.2 (by rw [e]; rfl)⟩) h3 h0 (by omega) hne).mono ?_
      rintro e w' ⟨F', rfl, hp, hs, hd, hin, hch⟩
      refine ⟨F', rfl, hp, hs, ?_, hch.toBelow e2 hb⟩
      have := Hd.row (cap := cap) hd (ok := fun b => base ≤ b ∧ b < w.heap.size) ⟨e2, hgl⟩ (fun x hx => KR.wide (hin x hx) fun b hb => ⟨(h2 b hb).1, (h2 b hb).2.1⟩) (by rw [hp.length_eq]; exact e4) e5
      rwa [hp.length_eq] at this
/-- What Rules leaves. -/
def RlR (l : List Rl) (w : World) (e : Ending) (w' : World) : Prop :=
  ∃ (m : List Rl) (v : Value), e = .returned (.tuple #[v, .int .i64 (codeL l)]) ∧ RsOf l m ∧ RIn (fun b => w.heap.size ≤ b ∧ b < w'.heap.size) w' m v ∧ Below w.heap.size w w'
theorem RIn.nil (ok : Nat → Prop) (w : World) : RIn ok w [] (.slice none 0 0) := ⟨[], rfl, RowG.nil _ _⟩
theorem rlr_bad {l : List Rl} {w w' : World} {c : Int} (hc : codeL l = c) (h0 : c ≠ 0) (k : Below w.heap.size w w') : RlR l w (.returned (.tuple #[.slice none 0 0, .int .i64 c])) w' :=
  ⟨[], _, by rw [hc], ⟨fun e => absurd (hc.symm.trans e) h0, fun _ => rfl⟩, RIn.nil _ _, k⟩
theorem txt_size {x : Rl} (h : vlB x = true) : (txt x).size ≤ maxLen := by
  unfold txt
  rw [bs_size]
  have hs := vl_sm h
  have h1 := hs.1
  have h2 := hs.2.2.2
  unfold ruleX maxLen
  simp only [List.length_append, List.length_cons, List.length_nil]
  split
  · simp only [List.length_nil]; omega
  · simp only [List.length_append, List.length_cons, List.length_nil]; omega
set_option maxRecDepth 100000 in
set_option maxHeartbeats 6400000 in
theorem rules_any (l : List Rl) (B : Nat) (w : World) (lv : Value) (hw : Wd w) (hB : B ≤ w.heap.size) (hl : RIn (· < B) w l lv) :
    Calls Tryz.prog 20 #[lv] w (RlR l w) := by
  obtain ⟨i0, hi, hz0, hz1, hz2⟩ := info_parts Tryz.infoR
  obtain ⟨p, c, rfl, hc, hm, hR⟩ := NorH.RIn.row hl
  have hlf : l.length ≤ 9223372036854775807 := Nat.le_trans hc hm
  have HR := Lib.hid (fun w' (k : Below w.heap.size w w') => show RowR B w' l p from by
    obtain ⟨p', c', e, _, _, h⟩ := NorH.RIn.row (hl.keep (w' := w') fun b o hb => k.cell (p := ⟨b, o, none⟩) (Nat.lt_of_lt_of_le hb hB))
    injection e with e _ _
    rw [e]; exact h)
  have hmm := @run_makeMap Tryz.prog
  have MO : Hid ((w.alloc (.map #[] 0)).ownsMap Tryz.prog 9 (plainElem (H := Unit) Tryz.prog 4) w.heap.size 0 (Dof [])) := Lib.hid (World.ownsMap_made _ _ _ _)
  have HW := Lib.hid hw
  generalize hnl : l.length = n at *
  have HN := Lib.hid hnl
  clear hR hl hc hm hw hnl
  by_cases h128 : 128 < n
  · have h128' : (128 : Int) < n := by omega
    have C2 : Hid (codeL l = 2) := Lib.hid (by unfold codeL; rw [if_pos (by rw [HN.out]; exact h128)])
    go_enter Tryz.func20, Tryz.ntmps20
    go_wp2_with fail
    refine bodyPost_ret (v := .tuple #[.slice none 0 0, .int .i64 2]) (by simp [results, Tryz.results20, go_sem]) rfl ?_
    exact rlr_bad C2.out (by decide) (Below.refl _ _)
  have h128' : ¬ (128 : Int) < n := by omega
  have FI0 : Hid (FI l 0 (([] : List (Rl × Value × Value)).map (·.1))) := Lib.hid (FI.start l)
  have FE : Hid (∀ (M m : List Rl), FI l n M → m.Perm M → (∀ (i j : Nat) (x y : Rl), i < j → m[i]? = some x → m[j]? = some y → cmpR x y ≤ 0) → codeL l = 0 ∧ RsOf l m) := Lib.hid (fun M m h hp hs => FI.fin (by rw [HN.out]; omega) (by rw [HN.out]; exact h) hp hs)
  have O0 : Hid (OwnG KR (w.heap.size + 1) (w.alloc (.map #[] 0)) [] (.slice none 0 0)) := Lib.hid (OwnG.nil _ _)
  have D0 : Hid (Below w.heap.size w (w.alloc (.map #[] 0))) := Lib.hid (below_alloc _ _)
  go_enter Tryz.func20, Tryz.ntmps20
  go_wp2_with fail
  go_loopw [4, 17] (fun v i wr => ∃ (k : Nat) (F : List (Rl × Value × Value)), k ≤ n ∧ i = .int .i64 k ∧ F.length ≤ k ∧ Hid (OwnG KR (w.heap.size + 1) wr F v) ∧ Hid (wr.ownsMap Tryz.prog 9 (plainElem (H := Unit) Tryz.prog 4) w.heap.size k (Dof ((F.map (·.1)).map txt))) ∧ Hid (FI l k (F.map (·.1))) ∧ Hid (Below w.heap.size w wr) ∧ w.heap.size + 1 ≤ wr.heap.size) (fun _ i _ => n - (intOf i).toNat)
  case atStart => exact ⟨0, [], Nat.zero_le _, rfl, Nat.le_refl _, O0, MO, FI0, D0, by simp⟩
  case round =>
    clear O0 MO FI0 D0
    obtain ⟨k, F, hk, rfl, hFk, hO, hM, hF, hD, hz⟩ := hrel
    obtain ⟨va, vc, rfl⟩ := hO.out.form
    by_cases hlt : k < n
    · obtain ⟨r, b, o, q, d, lp, lc, hr, rfl, hb, c1, c2, c3, hs, hrn, hls⟩ := (HR.out wr hD.out) k (by rw [HN.out]; exact hlt)
      have hBw := Nat.le_trans hB hD.out.size
      have RN := Lib.hid (fun w' (g : Below wr.heap.size wr w') => rule_any r.1 r.2 B w' _ _ (Nat.le_trans hBw g.size) (hs.deep g hBw) (hls.keep fun b o hb => g.cell (p := ⟨b, o, none⟩) (Nat.lt_of_lt_of_le hb hBw)) hrn)
      have HRK := Lib.hid hr
      obtain ⟨W3, hW3⟩ : ∃ z, z = wr.alloc (.cells #[.string r.1.nm, .slice q r.1.args.length d, .slice lp r.2.length lc] 27) := ⟨_, rfl⟩
      have J3 : Hid (Below wr.heap.size wr W3) := Lib.hid (by rw [hW3]; exact below_alloc _ _)
      have H3 : Hid (Has W3 wr.heap.size #[.string r.1.nm, .slice q r.1.args.length d, .slice lp r.2.length lc]) := Lib.hid (by rw [hW3]; exact Has.new _ _ _)
      have hz3 : wr.heap.size + 1 ≤ W3.heap.size := by rw [hW3]; simp
      have RN3 := Lib.hid (RN.out W3 J3.out)
      have hbl : b < wr.heap.size := Nat.lt_of_lt_of_le hb hBw
      have er : (r.1, r.2) = r := rfl
      rw [er] at RN3
      unfold NfR at RN3
      clear hs hls hr RN er
      generalize r.1.nm = rn at *
      generalize r.1.args.length = ra at *
      generalize r.2.length = rl at *
      obtain ⟨y1, y2, y3, y4, y5, y6, y7⟩ := UnpP.has3 H3.out
      go_upto_region 8 with fail
      rw [← hW3]
      clear hW3 c1 c2 c3
      go_wp2_with fail
      refine RN3.out.mono ?_
      rintro e w4 ⟨x, q4, d4, v4, rfl, hnf, hs4, hl4, hn4, k4⟩
      obtain ⟨p4, c4, rfl⟩ := hl4.form
      have K4 := Lib.hid (next0 J3.out k4)
      have D4 := Lib.hid (next0 hD.out K4.out)
      have hz4 := k4.size
      have NFX := Lib.hid hnf
      have S4 := Lib.hid hs4
      have L4 := Lib.hid hl4
      have N4 := Lib.hid hn4
      have CB := Lib.hid (fun (h0 : codeN r ≠ 0) => code_bad (by rw [HN.out]; omega) HRK.out hF.out h0)
      have FO := Lib.hid (fun (h0 : codeN r = 0) (hm : x ∈ F.map (·.1)) => FI.old hF.out HRK.out h0 hnf hm)
      have FW := Lib.hid (fun (h0 : codeN r = 0) (hm : x ∉ F.map (·.1)) => FI.new hF.out HRK.out h0 hnf hm)
      have VX := Lib.hid (fun (h0 : codeN r = 0) => nf_vl hnf h0)
      have VF := Lib.hid hF.out.2.2.1
      clear hnf hs4 hl4 hn4 k4 RN3 y1 y2 y3 y4 y5 y6 y7 H3
      generalize codeN r = c at *
      by_cases hc0 : c = 0
      · subst hc0
        have vx := VX.out rfl
        obtain ⟨W5, hW5⟩ : ∃ z, z = w4.alloc (.cells #[.string x.1.nm, .slice q4 x.1.args.length d4, .slice p4 x.2.length c4] 27) := ⟨_, rfl⟩
        have J5 : Hid (Below w4.heap.size w4 W5) := Lib.hid (by rw [hW5]; exact below_alloc _ _)
        have H5 : Hid (Has W5 w4.heap.size #[.string x.1.nm, .slice q4 x.1.args.length d4, .slice p4 x.2.length c4]) := Lib.hid (by rw [hW5]; exact Has.new _ _ _)
        have hz5 : w4.heap.size + 1 ≤ W5.heap.size := by rw [hW5]; simp
        have D5 := Lib.hid (next0 D4.out J5.out)
        have S5 := Lib.hid (S4.out.frame (w' := W5) fun b o hb => J5.out.cell (p := ⟨b, o, none⟩) hb.2)
        have L5 := Lib.hid (L4.out.keep (w' := W5) fun b o hb => J5.out.cell (p := ⟨b, o, none⟩) hb.2)
        have PR : Hid (Calls Tryz.prog 48 #[.agg #[.string x.1.nm, .slice q4 x.1.args.length d4, .slice p4 x.2.length c4]] W5 fun e w' => e = .returned (.string (txt x)) ∧ Below W5.heap.size W5 w') := Lib.hid (NorF.rule_any x w4.heap.size W5 _ _ (HW.out.below D5.out HW.out.1) J5.out.size (S5.out.weaken fun b hb => hb.2) (L5.out.wide fun b hb => hb.2) (vl_sm vx))
        have TS := txt_size vx
        have HT := Lib.hid (has_txt (M := F.map (·.1)) (x := x) VF.out vx)
        have MS : Hid (∀ s ∈ (F.map (·.1)).map txt, s.size ≤ maxLen) := Lib.hid (fun s hs => by obtain ⟨y, hy, rfl⟩ := List.mem_map.1 hs; exact txt_size (VF.out y hy))
        have DS := Lib.hid (Dof_snoc ((F.map (·.1)).map txt) (txt x))
        have MX : Hid (∀ z : Value × Value, ((F ++ [(x, z)]).map (·.1)).map txt = (F.map (·.1)).map txt ++ [txt x]) := Lib.hid (fun z => by simp)
        have FX : Hid (∀ z : Value × Value, (F ++ [(x, z)]).map (·.1) = F.map (·.1) ++ [x]) := Lib.hid (fun z => by simp)
        have O5 := Lib.hid (hO.out.ch (Ch.of (r := w.heap.size) (next0 K4.out J5.out)) (by omega))
        have M5 := Lib.hid ((LigY.Lt.of (ex := fun _ => False) (next0 K4.out J5.out)).map hM.out (fun e => e))
        have OLT := Lib.hid hO.out.1.lt
        clear vx S4 L4 CB VX VF
        generalize hs : txt x = s at *
        generalize hMM : (F.map (·.1)).map txt = M at *
        have HMM := Lib.hid hMM
        clear hMM
        obtain ⟨y1, y2, y3, y4, y5, y6, y7⟩ := UnpP.has3 H5.out
        go_upto_region 11 with fail
        rw [← hW5]
        clear hW5
        go_wp2_with fail
        refine PR.out.mono ?_
        rintro e w6 ⟨rfl, k6⟩
        have K6 := Lib.hid (next0 J5.out k6)
        have D6 := Lib.hid (next0 D5.out k6)
        have H6 := Lib.hid (H5.out.step0 k6)
        have O6 := Lib.hid (O5.out.ch (Ch.of (r := w.heap.size) k6) (by omega))
        have M6 := Lib.hid ((LigY.Lt.of (ex := fun _ => False) k6).map M5.out (fun e => e))
        have S6 := Lib.hid (S5.out.frame (w' := w6) fun b o hb => k6.cell (p := ⟨b, o, none⟩) (Nat.lt_of_lt_of_le hb.2 J5.out.size))
        have L6 := Lib.hid (L5.out.keep (w' := w6) fun b o hb => k6.cell (p := ⟨b, o, none⟩) (Nat.lt_of_lt_of_le hb.2 J5.out.size))
        have hz6 := k6.size
        have LK := look_bool M6.out MS.out s TS
        have HK : keyOf Tryz.prog 9 (.string s) = some (.string s.data.toList) := keyOf_string_mk Tryz.underlying9 TS
        have A0 : k < maxLen := by unfold maxLen; omega
        clear k6 PR y1 y2 y3 y4 y5 y6 y7 H5 O5 M5 S5 L5 D5 J5
        cases hh : hasB M s
        · rw [hh] at LK
          have HNM : Hid (x ∉ F.map (·.1)) := Lib.hid (fun e => by have := HT.out.2 e; rw [hh] at this; cases this)
          have A1 : F.length + 1 ≤ maxLen := by unfold maxLen; omega
          have A2 : (F.length + 1) * 64 ≤ 140737488355328 := by omega
          have F9 := Lib.hid (FW.out (by first | rfl | trivial) HNM.out)
          clear hh
          obtain ⟨y1, y2, y3, y4, y5, y6, y7⟩ := UnpP.has3 H6.out
          go_upto_region 14 with (at_mapUpdate; refine wpList_mapUpdate_own _ rfl _ _ _ 74 rfl 9 4 law Tryz.underlying74 _ w.heap.size k _ rfl M6.out A0 _ _ _ rfl rfl HK _ [] (plainElem_bool (H := Unit) Tryz.underlying4 true) ?_; intro w7 hown7 hgrow7)
          have C7 : Hid (Ch w.heap.size w6 w7) := Lib.hid hgrow7
          have M7 := Lib.hid hown7
          have O7 := Lib.hid (O6.out.ch hgrow7 (by omega))
          have H7 := Lib.hid (C7.out.has H6.out (by omega))
          have hz7 := hgrow7.size
          have S7 := Lib.hid ((S6.out.frame (w' := w7) fun b o hb => C7.out.cell (by omega) (by omega)).weaken (ok' := fun b => W3.heap.size ≤ b ∧ b < w7.heap.size) fun b hb => ⟨hb.1, by omega⟩)
          have L7 := Lib.hid ((L6.out.keep (w' := w7) fun b o hb => C7.out.cell (by omega) (by omega)).wide (ok' := fun b => W3.heap.size ≤ b ∧ b < w7.heap.size) fun b hb => ⟨hb.1, by omega⟩)
          have D7 := Lib.hid (D6.out.trans (C7.out.toBelow (Nat.le_refl _) (by omega)))
          have hvl : Hid (∀ j, (Value.slice va F.length vc).ownBlock = some j → w.heap.size + 1 ≤ j ∧ j < W3.heap.size) := Lib.hid (fun j hj => by have := OLT.out j hj; omega)
          have A3 : w.heap.size + 1 ≤ (w7.alloc (.cells #[.string x.1.nm, .slice q4 x.1.args.length d4, .slice p4 x.2.length c4] 27)).heap.size := by simp; omega
          have hlo : w.heap.size + 1 ≤ W3.heap.size := by omega
          clear hown7 hgrow7 O6 M6 H6 S6 L6 y1 y2 y3 y4 y5 y6 y7 LK
          obtain ⟨y1, y2, y3, y4, y5, y6, y7⟩ := UnpP.has3 H7.out
          go_wp2_with (at_builtin; go_must (refine wpList_append_lies _ rfl _ _ 37 rfl (w.heap.size + 1) 27 i0 (.agg #[.string ⟨#[]⟩, .slice none 0 0, .slice none 0 0]) 3 64 Tryz.underlying37 hi hz0 hz1 hz2 rfl (by decide) (.slice va F.length vc) F.length (KR.flat F) rfl (O7.out.1.alloc _) ⟨w7.heap.size, 0, none⟩ 1 1 [.string x.1.nm, .slice q4 x.1.args.length d4, .slice p4 x.2.length c4] rfl rfl (newsK _ _ _ _ _) (one_R _ _ _ _ _ _ _) (by decide) A1 A2 A3 (w7.heap.size + 1) (by simp) ?_; intro g cap w8 hown hgrow hat hlt8; have O8 := Lib.hid (OwnG.add (x := (x, .slice q4 x.1.args.length d4, .slice p4 x.2.length c4)) O7.out ⟨S7.out, N4.out, L7.out⟩ hlo (fun k hk => (hvl.out k hk).2) hown hgrow hat); have M8 := Lib.hid ((M7.out.alloc (.cells #[.string x.1.nm, .slice q4 x.1.args.length d4, .slice p4 x.2.length c4] 27)).kept hgrow (fun e => by have := (hvl.out _ e.symm).1; omega)); have D8 := Lib.hid ((D7.out.alloc (by exact D7.out.size) (.cells #[.string x.1.nm, .slice q4 x.1.args.length d4, .slice p4 x.2.length c4] 27)).grown hgrow (by have := D7.out.size; simp; omega) (fun j hj => by have := (hvl.out j hj).1; omega)); have hz8 := hgrow.size; clear hown hgrow hat))
          go_roundw
          case rel => exact ⟨k + 1, F ++ [(x, .slice q4 x.1.args.length d4, .slice p4 x.2.length c4)], by omega, by go_num, by rw [List.length_append, List.length_singleton]; omega, by simpa using O8, Lib.hid (by rw [MX.out, DS.out]; exact M8.out), Lib.hid (by rw [FX.out]; exact F9.out), D8, by simp at hz8; omega⟩
          case measure => simp [intOf]; omega
        · rw [hh] at LK
          have F9 := Lib.hid (FO.out (by first | rfl | trivial) (HT.out.1 hh))
          clear hh
          go_wp2_with fail
          go_roundw
          case rel => exact ⟨k + 1, F, by omega, by go_num, by omega, O6, Lib.hid (by rw [HMM.out]; exact M6.out.mono (by omega)), F9, D6, by omega⟩
          case measure => simp [intOf]; omega
      · have hcc : (c != 0) = true := by simpa using hc0
        have CB1 := Lib.hid (CB.out hc0)
        have HC0 := Lib.hid hc0
        clear hc0
        go_wp2_with fail
        refine bodyPost_ret (v := .tuple #[.slice none 0 0, .int .i64 c]) (by simp [results, Tryz.results20, go_sem]) rfl ?_
        exact rlr_bad CB1.out HC0.out (next0 D4.out (below_alloc _ _))
    · obtain rfl : k = n := by omega
      have KS := Lib.hid (sort_own (w.heap.size + 1) wr F _ hO.out (by omega) hz)
      have FF := hF
      have DD := hD
      clear hO hM hF hD
      unfold SortR at KS
      go_wp2_with fail
      refine KS.out.mono ?_
      rintro e w6 ⟨F', rfl, hp, hs, hrow, hb⟩
      have E6 := Lib.hid (FE.out _ (F'.map (·.1)) FF.out (hp.map _) (fun i j x y hij hx hy => by
        rw [List.getElem?_map] at hx hy
        obtain ⟨x', h1, rfl⟩ := Option.map_eq_some_iff.1 hx
        obtain ⟨y', h2, rfl⟩ := Option.map_eq_some_iff.1 hy
        exact hs i j x' y' hij h1 h2))
      have R6 := Lib.hid hrow
      have B6 := Lib.hid hb
      clear hp hs hrow hb KS
      go_wp2_with fail
      refine bodyPost_ret (v := .tuple #[.slice va F.length vc, .int .i64 0]) (by simp [results, Tryz.results20, go_sem]) rfl ?_
      exact ⟨F'.map (·.1), _, by rw [E6.out.1], E6.out.2, ⟨F', rfl, R6.out.wide fun b hb => ⟨by omega, Nat.lt_of_lt_of_le hb.2 B6.out.size⟩⟩, DD.out.trans (B6.out.mono (by omega))⟩
end NosH
end Go.Proofs.YtdkpflojdnkbnaaGreatDoor
/- Equal and Same of the code. Conditions: term.Text's table is laid. -/
namespace Go.Proofs.YtdkpflojdnkbnaaGreatDoor
open Go Go.RowKit Go.Maps Go.WideMaps
namespace NosI
open Kit LexM TermM TermI TermN TermU TermT UniK UniM UnpP NorM NorH NosF NosV NosH
/-- What Equal answers. -/
def EqOf (a b : List Rl) (R : Bool) (c : Int) : Prop :=
  (codeL a ≠ 0 → R = false ∧ c = codeL a) ∧ (codeL a = 0 → codeL b ≠ 0 → R = false ∧ c = codeL b) ∧ (codeL a = 0 → codeL b = 0 → c = 0 ∧ (R = true ↔ ∀ x, (∃ r ∈ a, NfOf r x) ↔ ∃ r ∈ b, NfOf r x))
theorem eq_both {a b m k : List Rl} (ha : RsOf a m) (hb : RsOf b k) (ea : codeL a = 0) (eb : codeL b = 0) : m = k ↔ ∀ x, (∃ r ∈ a, NfOf r x) ↔ ∃ r ∈ b, NfOf r x := by
  obtain ⟨a1, a2⟩ := ha.1 ea
  obtain ⟨b1, b2⟩ := hb.1 eb
  constructor
  · rintro rfl x
    exact (a2 x).symm.trans (b2 x)
  · intro h
    exact asc_unique r_neg r_zero a1 b1 fun x => (a2 x).trans ((h x).trans (b2 x).symm)
/-- What Equal leaves. -/
def EqR (a b : List Rl) (w : World) (e : Ending) (w' : World) : Prop := ∃ (R : Bool) (c : Int), e = .returned (.tuple #[.bool R, .int .i64 c]) ∧ EqOf a b R c ∧ Below w.heap.size w w'
set_option maxRecDepth 100000 in
set_option maxHeartbeats 3200000 in
theorem equal_any (a b : List Rl) (B : Nat) (w : World) (av bv : Value) (hw : Wd w) (hB : B ≤ w.heap.size) (ha : RIn (· < B) w a av) (hb : RIn (· < B) w b bv) :
    Calls Tryz.prog 22 #[av, bv] w (EqR a b w) := by
  obtain ⟨pa, ca, rfl⟩ := ha.form
  obtain ⟨pb, cb, rfl⟩ := hb.form
  have hmf : ∀ (fn : Fn) (first cap : Array Value) (w : World), (Instr.makeFunc fn first cap).run Tryz.prog w = .ok (.func fn first cap) w := fun _ _ _ _ => rfl
  have CA := Lib.hid (rules_any a B w _ hw hB ha)
  have CB := Lib.hid (fun w' (k : Below w.heap.size w w') => rules_any b B w' _ (hw.below k hw.1) (Nat.le_trans hB k.size) (hb.keep fun b o hb => k.cell (p := ⟨b, o, none⟩) (Nat.lt_of_lt_of_le hb hB)))
  unfold RlR at CA CB
  have EA := Lib.hid (fun (R : Bool) (c : Int) (h : codeL a ≠ 0) (e1 : R = false) (e2 : c = codeL a) => show EqOf a b R c from ⟨fun _ => ⟨e1, e2⟩, fun e => absurd e h, fun e => absurd e h⟩)
  have EB := Lib.hid (fun (R : Bool) (c : Int) (h0 : codeL a = 0) (h : codeL b ≠ 0) (e1 : R = false) (e2 : c = codeL b) => show EqOf a b R c from ⟨fun e => absurd h0 e, fun _ _ => ⟨e1, e2⟩, fun _ e => absurd e h⟩)
  have EC := Lib.hid (fun (R : Bool) (h0 : codeL a = 0) (h : codeL b = 0) (e1 : R = true ↔ ∀ x, (∃ r ∈ a, NfOf r x) ↔ ∃ r ∈ b, NfOf r x) => show EqOf a b R 0 from ⟨fun e => absurd h0 e, fun _ e => absurd h e, fun _ _ => ⟨rfl, e1⟩⟩)
  clear ha hb hw
  generalize a.length = la at *
  generalize b.length = lb at *
  generalize hca : codeL a = c1 at *
  generalize hcb : codeL b = c2 at *
  have HA := Lib.hid hca
  have HBc := Lib.hid hcb
  clear hca hcb
  go_enter Tryz.func22, Tryz.ntmps22
  go_wp2_with fail
  refine CA.out.mono ?_
  rintro e w1 ⟨m1, v1, rfl, hr1, hi1, k1⟩
  obtain ⟨p1, q1, rfl⟩ := hi1.form
  have R1 := Lib.hid hr1
  have I1 := Lib.hid hi1
  have K1 := Lib.hid k1
  clear hr1 hi1 k1 CA
  by_cases hc1 : c1 = 0
  · subst hc1
    go_wp2_with fail
    refine (CB.out w1 K1.out).mono ?_
    rintro e w2 ⟨m2, v2, rfl, hr2, hi2, k2⟩
    obtain ⟨p2, q2, rfl⟩ := hi2.form
    have R2 := Lib.hid hr2
    have K2 := Lib.hid (next0 K1.out k2)
    have I2 := Lib.hid (hi2.wide (ok' := (· < w2.heap.size)) fun b hb => hb.2)
    have I12 := Lib.hid ((I1.out.keep (w' := w2) fun b o hb => k2.cell (p := ⟨b, o, none⟩) hb.2).wide (ok' := (· < w2.heap.size)) fun b hb => Nat.lt_of_lt_of_le hb.2 k2.size)
    clear hr2 hi2 k2 CB I1
    by_cases hc2 : c2 = 0
    · subst hc2
      obtain ⟨R, hR⟩ : ∃ R : Bool, R = true ↔ m1 = m2 := by classical exact ⟨decide (m1 = m2), by simp⟩
      have EQ := Lib.hid (eqf_any m1 m2 R hR w2.heap.size w2 _ _ (Nat.le_refl _) I12.out I2.out)
      have EE := Lib.hid (EC.out R (by first | rfl | trivial) (by first | rfl | trivial) (hR.trans (eq_both R1.out R2.out HA.out HBc.out)))
      clear hR I12 I2 EA EB EC
      generalize m1.length = n1 at *
      generalize m2.length = n2 at *
      go_wp2_with fail
      refine EQ.out.mono ?_
      rintro e w3 ⟨rfl, g3⟩
      have K3 := Lib.hid (next0 K2.out g3.1)
      clear g3
      go_wp2_with fail
      refine bodyPost_ret (v := .tuple #[.bool R, .int .i64 0]) (by simp [results, Tryz.results22, go_sem]) rfl ?_
      exact ⟨R, 0, rfl, EE.out, K3.out⟩
    · have hcc : (c2 != 0) = true := by simpa using hc2
      have EE := Lib.hid (EB.out false c2 (by first | rfl | trivial) hc2 rfl rfl)
      clear hc2
      go_wp2_with fail
      refine bodyPost_ret (v := .tuple #[.bool false, .int .i64 c2]) (by simp [results, Tryz.results22, go_sem]) rfl ?_
      exact ⟨false, c2, rfl, EE.out, K2.out⟩
  · have hcc : (c1 != 0) = true := by simpa using hc1
    have EE := Lib.hid (EA.out false c1 hc1 rfl rfl)
    clear hc1
    go_wp2_with fail
    refine bodyPost_ret (v := .tuple #[.bool false, .int .i64 c1]) (by simp [results, Tryz.results22, go_sem]) rfl ?_
    exact ⟨false, c1, rfl, EE.out, K1.out⟩
theorem rin_one {w : World} {g B : Nat} {r : Rl} {sa sl : Value} (hg : Has w g #[.string r.1.nm, sa, sl]) (hB : B ≤ w.heap.size) (h1 : SlIn (· < B) w r.1.args sa) (h2 : LIn (· < B) w r.2 sl) (hn : r.1.nm.size ≤ maxLen) :
    RIn (· < w.heap.size) w [r] (.slice (some ⟨g, 0, none⟩) 1 1) := by
  refine ⟨[(r, sa, sl)], rfl, some ⟨g, 0, none⟩, 1, rfl, Nat.le_refl _, by unfold maxLen; omega, fun x hx => ?_, fun _ => ⟨g, 0, rfl, hg.lt, fun i x hx j u hu => ?_⟩⟩
  · obtain rfl := List.mem_singleton.1 hx
    exact ⟨h1.weaken fun b hb => Nat.lt_of_lt_of_le hb hB, hn, h2.wide fun b hb => Nat.lt_of_lt_of_le hb hB⟩
  · obtain rfl : i = 0 := by
      have := (List.getElem?_eq_some_iff.1 hx).1
      simp at this
      omega
    simp at hx
    subst hx
    refine (hg.cell _).trans ?_
    rw [show 0 + 0 * 3 + j = j by omega]
    have hu' : [Value.string r.1.nm, sa, sl][j]? = some u := hu
    simpa using hu'
set_option maxRecDepth 100000 in
set_option maxHeartbeats 3200000 in
theorem same_any (a b : Rl) (B : Nat) (w : World) (sa sl sb sm : Value) (hw : Wd w) (hB : B ≤ w.heap.size) (h1 : SlIn (· < B) w a.1.args sa) (h2 : LIn (· < B) w a.2 sl) (hn : a.1.nm.size ≤ maxLen) (h1' : SlIn (· < B) w b.1.args sb) (h2' : LIn (· < B) w b.2 sm) (hn' : b.1.nm.size ≤ maxLen) :
    Calls Tryz.prog 16 #[.agg #[.string a.1.nm, sa, sl], .agg #[.string b.1.nm, sb, sm]] w (EqR [a] [b] w) := by
  obtain ⟨p1, c1, rfl⟩ := h1.form
  obtain ⟨p2, c2, rfl⟩ := h2.form
  obtain ⟨p3, c3, rfl⟩ := h1'.form
  obtain ⟨p4, c4, rfl⟩ := h2'.form
  obtain ⟨W2, hW2⟩ : ∃ W2, W2 = (w.alloc (.cells #[.string a.1.nm, .slice p1 a.1.args.length c1, .slice p2 a.2.length c2] 27)).alloc (.cells #[.string b.1.nm, .slice p3 b.1.args.length c3, .slice p4 b.2.length c4] 27) := ⟨_, rfl⟩
  have B2 : Hid (Below w.heap.size w W2) := Lib.hid (by rw [hW2]; exact next0 (below_alloc _ _) (below_alloc _ _))
  have H2 : Hid (Has W2 w.heap.size #[.string a.1.nm, .slice p1 a.1.args.length c1, .slice p2 a.2.length c2]) := Lib.hid (by rw [hW2]; exact (Has.new w _ _).alloc _)
  have E2 : Hid (Has W2 (w.heap.size + 1) #[.string b.1.nm, .slice p3 b.1.args.length c3, .slice p4 b.2.length c4]) := Lib.hid (by rw [hW2]; exact Has.new1 w _ _ _)
  have hz2 : w.heap.size + 2 ≤ W2.heap.size := by rw [hW2]; simp
  obtain ⟨W4, hW4⟩ : ∃ W4, W4 = (W2.alloc (.cells #[.string a.1.nm, .slice p1 a.1.args.length c1, .slice p2 a.2.length c2] 27)).alloc (.cells #[.string b.1.nm, .slice p3 b.1.args.length c3, .slice p4 b.2.length c4] 27) := ⟨_, rfl⟩
  have J4 : Hid (Below W2.heap.size W2 W4) := Lib.hid (by rw [hW4]; exact next0 (below_alloc _ _) (below_alloc _ _))
  have H4 : Hid (Has W4 W2.heap.size #[.string a.1.nm, .slice p1 a.1.args.length c1, .slice p2 a.2.length c2]) := Lib.hid (by rw [hW4]; exact (Has.new _ _ _).alloc _)
  have E4 : Hid (Has W4 (W2.heap.size + 1) #[.string b.1.nm, .slice p3 b.1.args.length c3, .slice p4 b.2.length c4]) := Lib.hid (by rw [hW4]; exact Has.new1 _ _ _ _)
  have K4 := Lib.hid (next0 B2.out J4.out)
  have hz4 : B ≤ W4.heap.size := Nat.le_trans hB K4.out.size
  have fr : ∀ (b o : Nat), b < B → W4.cell? ⟨b, o, none⟩ = w.cell? ⟨b, o, none⟩ := fun b o hb => K4.out.cell (p := ⟨b, o, none⟩) (Nat.lt_of_lt_of_le hb hB)
  have EQ := Lib.hid (equal_any [a] [b] W4.heap.size W4 _ _ (hw.below K4.out hw.1) (Nat.le_refl _) (rin_one H4.out hz4 (h1.frame fr) (h2.keep fr) hn) (rin_one E4.out hz4 (h1'.frame fr) (h2'.keep fr) hn'))
  clear h1 h2 h1' h2' hw hn hn' fr
  unfold EqR at EQ ⊢
  generalize a.1.nm = an at *
  generalize b.1.nm = bn at *
  generalize a.1.args.length = aa at *
  generalize b.1.args.length = ba at *
  generalize a.2.length = al at *
  generalize b.2.length = bl at *
  obtain ⟨y1, y2, y3, y4, y5, y6, y7⟩ := UnpP.has3 H2.out
  obtain ⟨x1, x2, x3, x4, x5, x6, x7⟩ := UnpP.has3 E2.out
  obtain ⟨u1, u2, u3, u4, u5, u6, u7⟩ := UnpP.has3 ((H2.out.alloc (.cells #[.string an, .slice p1 aa c1, .slice p2 al c2] 27)))
  obtain ⟨t1, t2, t3, t4, t5, t6, t7⟩ := UnpP.has3 ((E2.out.alloc (.cells #[.string an, .slice p1 aa c1, .slice p2 al c2] 27)))
  go_enter Tryz.func16, Tryz.ntmps16
  go_upto_region 1 with fail
  rw [← hW2]
  clear hW2
  go_wp2_with fail
  rw [← hW4]
  clear hW4
  refine EQ.out.mono ?_
  rintro e w5 ⟨R, c, rfl, he, k5⟩
  have HE := Lib.hid he
  have K5 := Lib.hid (next0 K4.out k5)
  clear he k5
  go_wp2_with fail
  refine bodyPost_ret (v := .tuple #[.bool R, .int .i64 c]) (by simp [results, Tryz.results16, go_sem]) rfl ?_
  exact ⟨R, c, rfl, HE.out, K5.out⟩
/-! ### Of two rules -/
theorem code_one (a : Rl) : codeL [a] = codeN a := by
  unfold codeL firstE firstE
  simp only [List.length_cons, List.length_nil]
  rw [if_neg (by omega)]
  split
  · rename_i h; rw [h]
  · rfl
theorem eq_one {a b : Rl} {R : Bool} {c : Int} (h : EqOf [a] [b] R c) (ha : codeN a = 0) (hb : codeN b = 0) : c = 0 ∧ (R = true ↔ ∀ x, NfOf a x ↔ NfOf b x) := by
  have := h.2.2 (by rw [code_one]; exact ha) (by rw [code_one]; exact hb)
  simpa using this
end NosI
end Go.Proofs.YtdkpflojdnkbnaaGreatDoor
