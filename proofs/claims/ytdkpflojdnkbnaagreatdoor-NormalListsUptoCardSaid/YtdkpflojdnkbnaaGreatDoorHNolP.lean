/- The reference's Rules: the normal form of a description, or the error. No conditions. Made by gennolp.py. -/
import Derived.Test.YtdkpflojdnkbnaaGreatDoorHNolO
import Derived.Test.YtdkpflojdnkbnaaGreatDoorHCE
import Derived.Deep.RegionHeld3
import Derived.Deep.DeepCutAuto
import Derived.BigQuiet
namespace Go.Proofs.YtdkpflojdnkbnaaGreatDoor
open Go Go.RowKit
namespace NolP
open Kit LexM TermM TermI TermN TermU UniK UniM UnpP NorM NorH NosF NosV NosH NolK NolM LigY
/-! ### Plain facts -/
def insR (x : Rl) : List Rl → List Rl
  | [] => [x]
  | y :: l => if cmpR x y < 0 then x :: y :: l else if cmpR x y = 0 then y :: l else y :: insR x l
theorem insr_mem (x : Rl) : ∀ (l : List Rl) (y : Rl), y ∈ insR x l ↔ y = x ∨ y ∈ l
  | [], y => by simp [insR]
  | z :: l, y => by
    unfold insR
    split
    · simp
    · split
      · rename_i h
        have := (r_zero x z).1 h
        subst this
        simp
      · simp only [List.mem_cons, insr_mem x l y]
        constructor
        · rintro (h | h | h)
          · exact Or.inr (Or.inl h)
          · exact Or.inl h
          · exact Or.inr (Or.inr h)
        · rintro (h | h | h)
          · exact Or.inr (Or.inl h)
          · exact Or.inl h
          · exact Or.inr (Or.inr h)
theorem insr_asc (x : Rl) : ∀ (l : List Rl), Asc cmpR l → Asc cmpR (insR x l)
  | [], _ => by simp [insR, Asc]
  | z :: l, h => by
    have hh := asc_head h
    have ht := asc_tail h
    unfold insR
    split
    · rename_i hx
      refine List.pairwise_cons.2 ⟨fun y hy => ?_, h⟩
      rcases List.mem_cons.1 hy with rfl | hy
      · exact hx
      · have h1 := hh y hy
        have h2 := tri_r x z y
        unfold Tri at h2
        omega
    · split
      · exact h
      · rename_i h1 h2
        refine List.pairwise_cons.2 ⟨fun y hy => ?_, insr_asc x l ht⟩
        rcases (insr_mem x l y).1 hy with rfl | hy
        · have := r_neg y z
          omega
        · exact hh y hy
theorem insr_at (x : Rl) : ∀ (m : List Rl) (i : Nat), (∀ j y, j < i → m[j]? = some y → cmpR y x < 0) → i ≤ m.length →
    (∀ y, m[i]? = some y → cmpR y x = 0 → insR x m = m) ∧ ((∀ y, m[i]? = some y → 0 < cmpR y x) → insR x m = m.take i ++ x :: m.drop i)
  | [], i, _, hi => by
    obtain rfl : i = 0 := by simpa using hi
    exact ⟨fun y h => by simp at h, fun _ => by simp [insR]⟩
  | a :: m, 0, _, _ => by
    have h := r_neg a x
    refine ⟨fun y hy e => ?_, fun hy => ?_⟩
    · obtain rfl : a = y := by simpa using hy
      unfold insR
      rw [if_neg (by omega), if_pos (by omega)]
    · have := hy a rfl
      unfold insR
      rw [if_pos (by omega)]
      rfl
  | a :: m, i + 1, hl, hi => by
    have h := r_neg a x
    have h0 := hl 0 a (by omega) rfl
    obtain ⟨h1, h2⟩ := insr_at x m i (fun j y hj hy => hl (j + 1) y (by omega) (by simpa using hy)) (by simpa using hi)
    have e : insR x (a :: m) = a :: insR x m := by
      rw [insR, if_neg (by omega), if_neg (by omega)]
    refine ⟨fun y hy he => ?_, fun hy => ?_⟩
    · rw [e, h1 y (by simpa using hy) he]
    · rw [e, h2 (fun y h => hy y (by simpa using h))]
      rfl
theorem insr_len (x : Rl) : ∀ m : List Rl, (insR x m).length ≤ m.length + 1
  | [] => by simp [insR]
  | y :: m => by
    have := insr_len x m
    unfold insR
    split
    · simp
    · split
      · simp
      · simp only [List.length_cons]; omega
/-- What the loop has after k rules. -/
def MI (l : List Rl) (k : Nat) (M : List Rl) : Prop := (∀ r ∈ l.take k, codeN r = 0) ∧ Asc cmpR M ∧ (∀ x, x ∈ M ↔ ∃ r ∈ l.take k, NfOf r x) ∧ M.length ≤ k
theorem MI.start (l : List Rl) : MI l 0 [] := ⟨by simp, by simp [Asc], by simp, by simp⟩
theorem MI.next {l : List Rl} {k : Nat} {M : List Rl} (h : MI l k M) {r x : Rl} (hr : l[k]? = some r) (h0 : codeN r = 0) (hx : NfOf r x) : MI l (k + 1) (insR x M) := by
  obtain ⟨a1, a2, a3, a4⟩ := h
  refine ⟨fun y hy => ?_, insr_asc x M a2, fun y => ?_, by have := insr_len x M; omega⟩
  · rcases (take_mem hr y).1 hy with h | rfl
    · exact a1 y h
    · exact h0
  · rw [insr_mem, a3]
    constructor
    · rintro (rfl | ⟨z, hz, hn⟩)
      · exact ⟨r, (take_mem hr r).2 (Or.inr rfl), hx⟩
      · exact ⟨z, (take_mem hr z).2 (Or.inl hz), hn⟩
    · rintro ⟨z, hz, hn⟩
      rcases (take_mem hr z).1 hz with h | rfl
      · exact Or.inr ⟨z, h, hn⟩
      · exact Or.inl (nf_det hn hx)
theorem MI.fin {l M : List Rl} (hl : l.length ≤ 128) (h : MI l l.length M) : codeL l = 0 ∧ RsOf l M := by
  obtain ⟨a1, a2, a3, _⟩ := h
  rw [List.take_length] at a1 a3
  have hc : codeL l = 0 := by unfold codeL; rw [if_neg (by omega)]; exact first_ok a1
  exact ⟨hc, fun _ => ⟨a2, a3⟩, fun e => absurd hc e⟩
theorem MI.bad {l : List Rl} {k : Nat} {r : Rl} {M : List Rl} (hl : l.length ≤ 128) (hr : l[k]? = some r) (h : MI l k M) (h0 : codeN r ≠ 0) : codeL l = codeN r := by
  unfold codeL
  rw [if_neg (by omega)]
  exact first_bad hr h.1 h0
/-! ### Rows -/
theorem row_mixK {α : Type} {K : Kd α} {base : Nat} {ok : Nat → Prop} {w : World} {L : List α} {v : Value} (h1 : w.ownsRow base K.ty 3 v L.length (K.flat L)) (h3 : ∀ x ∈ L, K.inn ok w x) (hb : ∀ b, base ≤ b → b < w.heap.size → ok b) : RowG K ok w L v := by
  have hl := h1.lt
  rcases h1.2 with ⟨e, hz⟩ | ⟨g, cap, cur, e, e2, e3, e4, e5, _⟩
  · exact ⟨none, 0, by rw [e, hz], by omega, Nat.zero_le _, h3, fun h => by omega⟩
  · subst e
    refine ⟨_, cap, rfl, e4, e5, h3, fun _ => ⟨g, 0, rfl, hb g (hl g rfl).1 (hl g rfl).2, fun i x hx j u hu => ?_⟩⟩
    have hi := (List.getElem?_eq_some_iff.1 hx).1
    have hj := (List.getElem?_eq_some_iff.1 hu).1
    rw [K.len] at hj
    rw [show 0 + i * 3 + j = i * 3 + j by omega]
    exact (h1.cellAt _ (by omega)).trans (flat_get L i x hx j u hu)
theorem one_allR (L : List (Rl × Value × Value)) (h : ∀ x ∈ L, (∃ q n c, x.2.1 = .slice q n c) ∧ ∃ q n c, x.2.2 = .slice q n c) : ∀ u ∈ KR.flat L, u.oneCell' = true := by
  intro u hu
  unfold Kd.flat at hu
  obtain ⟨x, hx, hu⟩ := List.mem_flatMap.1 hu
  obtain ⟨⟨q, n, c, e⟩, ⟨q', n', c', e'⟩⟩ := h x hx
  have hu' : u ∈ [Value.string x.1.1.nm, x.2.1, x.2.2] := hu
  rw [e, e'] at hu'
  exact one_R _ _ _ _ _ _ _ u hu'
theorem flat_takeR (L : List (Rl × Value × Value)) (i : Nat) : KR.flat (L.take i) ++ KR.flat (L.drop i) = KR.flat L := by rw [← flat_app, List.take_append_drop]
theorem part_cellsR {base g c n : Nat} {w : World} {L : List (Rl × Value × Value)} (h : w.ownsRow base KR.ty 3 (.slice (some ⟨g, 0, none⟩) n c) n (KR.flat L)) (hn : n = L.length) (i : Nat) (M : List (Rl × Value × Value)) (hi : i ≤ L.length) (hM : ∃ s, L.drop i = M ++ s) :
    ∀ j u, (KR.flat M)[j]? = some u → w.cell? ((⟨g, i * 3, none⟩ : Addr).add j) = some u := by
  subst hn
  intro j u hu
  obtain ⟨s, hs⟩ := hM
  have hj := (List.getElem?_eq_some_iff.1 hu).1
  rw [flat_len] at hj
  have hl : M.length + s.length = L.length - i := by rw [← List.length_append, ← hs, List.length_drop]
  have e : (KR.flat L)[i * 3 + j]? = some u := by
    rw [← flat_takeR L i, List.getElem?_append_right (by rw [flat_len, List.length_take]; omega), flat_len, List.length_take, Nat.min_eq_left hi, show i * 3 + j - i * 3 = j by omega, hs, flat_app, List.getElem?_append_left (by rw [flat_len]; exact hj)]
    exact hu
  have := (h.cellAt (i * 3 + j) (by omega)).trans e
  by_cases h0 : j = 0
  · subst h0
    simpa [Addr.add] using this
  · simpa [Addr.add, h0] using this
theorem formR {ok : Nat → Prop} {w : World} {x : Rl × Value × Value} (h : KR.inn ok w x) : (∃ q n c, x.2.1 = .slice q n c) ∧ ∃ q n c, x.2.2 = .slice q n c := by
  obtain ⟨q, c, e⟩ := h.1.form
  obtain ⟨q', c', e'⟩ := h.2.2.form
  exact ⟨⟨q, _, c, e⟩, ⟨q', _, c', e'⟩⟩
theorem new_rowR {A D : List (Rl × Value × Value)} {z : Rl × Value × Value} : KR.flat A ++ KR.cells z ++ KR.flat D = KR.flat (A ++ z :: D) := by
  rw [flat_app, List.append_assoc]
  rfl
set_option maxRecDepth 100000 in
set_option maxHeartbeats 6400000 in
theorem rrules_any (l : List Rl) (B : Nat) (w : World) (lv : Value) (hB : B ≤ w.heap.size) (hl : RIn (· < B) w l lv) :
    Calls Tryz.prog 21 #[lv] w (RlR l w) := by
  obtain ⟨i0, hi0, hi1, hi2, hi3⟩ := info_parts Tryz.infoR
  obtain ⟨p, c, rfl, hc, hm, hR⟩ := NorH.RIn.row hl
  have hlf : l.length ≤ 9223372036854775807 := Nat.le_trans hc hm
  have HR := Lib.hid (fun w' (k : Below w.heap.size w w') => show RowR B w' l p from by
    obtain ⟨p', c', e, _, _, h⟩ := NorH.RIn.row (hl.keep (w' := w') fun b o hb => k.cell (p := ⟨b, o, none⟩) (Nat.lt_of_lt_of_le hb hB))
    injection e with e _ _
    rw [e]; exact h)
  generalize hnl : l.length = n at *
  have HN := Lib.hid hnl
  clear hR hl hc hm hnl
  by_cases h128 : 128 < n
  · have h128' : (128 : Int) < n := by omega
    have C2 : Hid (codeL l = 2) := Lib.hid (by unfold codeL; rw [if_pos (by rw [HN.out]; exact h128)])
    go_enter Tryz.func21, Tryz.ntmps21
    go_wp2_with fail
    refine bodyPost_ret (v := .tuple #[.slice none 0 0, .int .i64 2]) (by simp [results, Tryz.results21, go_sem]) rfl ?_
    exact rlr_bad C2.out (by decide) (Below.refl _ _)
  have h128' : ¬ (128 : Int) < n := by omega
  have M0 : Hid (MI l 0 (([] : List (Rl × Value × Value)).map (·.1))) := Lib.hid (MI.start l)
  have ME : Hid (∀ M : List Rl, MI l n M → codeL l = 0 ∧ RsOf l M) := Lib.hid (fun M h => MI.fin (by rw [HN.out]; omega) (by rw [HN.out]; exact h))
  have O0 : Hid (w.ownsRow w.heap.size KR.ty 3 (.slice none 0 0) ([] : List (Rl × Value × Value)).length (KR.flat [])) := Lib.hid (OwnG.nil (K := KR) _ _).1
  go_enter Tryz.func21, Tryz.ntmps21
  go_wp2_with fail
  go_loopw [4, 5] (fun u4 i wr => ∃ (k : Nat) (F : List (Rl × Value × Value)), k ≤ n ∧ i = .int .i64 k ∧ Hid (MI l k (F.map (·.1))) ∧ Hid (wr.ownsRow w.heap.size KR.ty 3 u4 F.length (KR.flat F)) ∧ Hid (∀ z ∈ F, KR.inn (fun b => w.heap.size ≤ b ∧ b < wr.heap.size) wr z) ∧ Hid (Below w.heap.size w wr)) (fun _ i _ => n - (intOf i).toNat)
  case atStart => exact ⟨0, [], Nat.zero_le _, rfl, M0, O0, Lib.hid (fun z h => by simp at h), Lib.hid (Below.refl _ _)⟩
  case round =>
    clear M0 O0
    obtain ⟨k, F, hk, rfl, hM, hO, hI, hD⟩ := hrel
    obtain ⟨va, vc, rfl⟩ := form1 hO.out
    have hzr := hD.out.size
    by_cases hlt : k < n
    · obtain ⟨r, b, o, q, d, lp, lc, hr, rfl, hb, c1, c2, c3, hs, hrn, hls⟩ := (HR.out wr hD.out) k (by rw [HN.out]; exact hlt)
      have RN := Lib.hid (NolN.rrule_any r.1 r.2 B wr _ _ (Nat.le_trans hB hzr) hs hls hrn)
      have HRK := Lib.hid hr
      have er : (r.1, r.2) = r := rfl
      rw [er] at RN
      unfold NfR at RN
      have hFk : Hid (F.length ≤ k) := Lib.hid (by have h := hM.out.2.2.2; rw [List.length_map] at h; exact h)
      have hFl : F.length ≤ 128 := by have := hFk.out; omega
      clear hs hls hr er
      generalize r.1.nm = rn at *
      generalize r.1.args.length = ra at *
      generalize r.2.length = rl at *
      go_wp2_with fail
      refine RN.out.mono ?_
      rintro e w4 ⟨z, q5, d5, v5, rfl, hnf, hs4, hl4, hn4, k4⟩
      obtain ⟨p5, e5, rfl⟩ := hl4.form
      have hz4 := k4.size
      have MB := Lib.hid (fun (h0 : codeN r ≠ 0) => MI.bad (by rw [HN.out]; omega) HRK.out hM.out h0)
      have MN := Lib.hid (fun (h0 : codeN r = 0) => MI.next hM.out HRK.out h0 hnf)
      obtain ⟨W5, hW5⟩ : ∃ u, u = w4.alloc (.cells #[.string z.1.nm, .slice q5 z.1.args.length d5, .slice p5 z.2.length e5] 27) := ⟨_, rfl⟩
      obtain ⟨X5, hX5⟩ : ∃ m, m = w4.heap.size := ⟨_, rfl⟩
      have J5 : Hid (Below w4.heap.size w4 W5) := Lib.hid (by rw [hW5]; exact below_alloc _ _)
      have HB5 : Hid (Has W5 X5 #[.string z.1.nm, .slice q5 z.1.args.length d5, .slice p5 z.2.length e5]) := Lib.hid (by rw [hW5, hX5]; exact Has.new _ _ _)
      have hz5 : w4.heap.size + 1 ≤ W5.heap.size := by rw [hW5]; simp
      have K5 : Hid (Below wr.heap.size wr W5) := Lib.hid (next0 k4 J5.out)
      have D5 := Lib.hid (next0 hD.out K5.out)
      have O5 := Lib.hid (own_lt (ex := fun _ => False) hO.out (Lt.of K5.out) (fun _ _ h => h))
      have I5 : Hid (∀ w', Below W5.heap.size W5 w' → ∀ y ∈ F, KR.inn (fun b => w.heap.size ≤ b ∧ b < w'.heap.size) w' y) := Lib.hid (fun w' g y hy => KR.wide (KR.keep (hI.out y hy) fun b o hb => (next0 K5.out g).cell (p := ⟨b, o, none⟩) hb.2) fun b hb => ⟨hb.1, Nat.lt_of_lt_of_le hb.2 (next0 K5.out g).size⟩)
      have Z5 : Hid (∀ w', Below W5.heap.size W5 w' → KR.inn (fun b => w.heap.size ≤ b ∧ b < w'.heap.size) w' (z, .slice q5 z.1.args.length d5, .slice p5 z.2.length e5)) := Lib.hid (fun w' g => by
        have gs := g.size
        have gg := next0 J5.out g
        exact ⟨(hs4.frame (w' := w') fun b o hb => gg.cell (p := ⟨b, o, none⟩) hb.2).weaken fun b hb => ⟨by have := hb.1; omega, by have := hb.2; omega⟩, hn4, (hl4.keep (w' := w') fun b o hb => gg.cell (p := ⟨b, o, none⟩) hb.2).wide fun b hb => ⟨by have := hb.1; omega, by have := hb.2; omega⟩⟩)
      have RL : Hid (∀ (y : Rl × Value × Value), y ∈ F → ∀ w', Below W5.heap.size W5 w' → Calls Tryz.prog 13 #[.agg #[.string y.1.1.nm, y.2.1, y.2.2], .agg #[.string z.1.nm, .slice q5 z.1.args.length d5, .slice p5 z.2.length e5]] w' fun e w'' => e = .returned (.int .i64 (cmpR y.1 z)) ∧ Gr w' w'') := Lib.hid (fun y hy w' g => by
        obtain ⟨h1, h2, h3⟩ := I5.out w' g y hy
        obtain ⟨g1, g2, g3⟩ := Z5.out w' g
        exact NorG.rcmpr_any y.1.1 z.1 y.1.2 z.2 w'.heap.size w' _ _ _ _ (Nat.le_refl _) (h1.weaken fun b hb => hb.2) (g1.weaken fun b hb => hb.2) h2 g2 (h3.wide fun b hb => hb.2) (g3.wide fun b hb => hb.2))
      have hM8 : Hid (∀ (A D : List (Rl × Value × Value)) (u : Value × Value), (A ++ (z, u) :: D).map (·.1) = A.map (·.1) ++ z :: D.map (·.1)) := Lib.hid (fun A D u => by simp)
      have ZC : Hid (KR.cells (z, .slice q5 z.1.args.length d5, .slice p5 z.2.length e5) = [.string z.1.nm, .slice q5 z.1.args.length d5, .slice p5 z.2.length e5]) := Lib.hid rfl
      clear hnf hs4 hl4 hn4 k4 RN hI hO hM
      generalize hzl : (z, Value.slice q5 z.1.args.length d5, Value.slice p5 z.2.length e5) = zl at *
      have ZL : Hid (zl.1 = z) := Lib.hid (by rw [← hzl])
      have hM9 : Hid (∀ A D : List (Rl × Value × Value), (A ++ zl :: D).map (·.1) = A.map (·.1) ++ z :: D.map (·.1)) := Lib.hid (fun A D => by rw [← hzl]; exact hM8.out _ _ _)
      clear hzl hM8
      generalize z.1.nm = zn at *
      generalize z.1.args.length = za at *
      generalize z.2.length = zb at *
      generalize hcn : codeN r = c at *
      clear hcn
      go_upto_region 8 with fail
      rw [← hW5, ← hX5]
      clear hW5 hX5 c1 c2 c3 J5
      by_cases hc0 : c = 0
      · have MN0 := Lib.hid (MN.out hc0)
        subst hc0
        clear MB MN
        go_wp2_with fail
        have Q0 : Hid (Below W5.heap.size W5 W5) := Lib.hid (Below.refl _ _)
        go_loopw [8] (fun i wq => ∃ at_ : Nat, at_ ≤ F.length ∧ i = .int .i64 at_ ∧ Hid (∀ j y, j < at_ → (F.map (·.1))[j]? = some y → cmpR y z < 0) ∧ Hid (Below W5.heap.size W5 wq)) (fun i _ => F.length - (intOf i).toNat)
        case atStart => exact ⟨0, Nat.zero_le _, rfl, Lib.hid (fun j y hj => by omega), Q0⟩
        case round =>
          clear Q0
          obtain ⟨at_, hat, rfl, hA, hQ⟩ := hrel
          by_cases ha : at_ < F.length
          · obtain ⟨gv, hgv⟩ : ∃ gv, va = some ⟨gv, 0, none⟩ := by
              rcases O5.out.2 with ⟨e, hz⟩ | ⟨gv, cap, cur, e, _⟩
              · omega
              · injection e with e1 _ _; exact ⟨gv, e1⟩
            subst hgv
            obtain ⟨y, hy⟩ : ∃ y, F[at_]? = some y := ⟨F[at_], by simp⟩
            have hyF := List.mem_of_getElem? hy
            obtain ⟨⟨q8, n8, d8, hyv⟩, ⟨q9, n9, d9, hyw⟩⟩ := formR (I5.out W5 (Below.refl _ _) y hyF)
            have OQ := Lib.hid (fun w' (k : Below W5.heap.size W5 w') => own_lt (ex := fun _ => False) O5.out (Lt.of k) (fun _ _ h => h))
            have KK := Lib.hid (RL.out y hyF)
            rw [hyv, hyw] at KK
            have Hb : Hid (∀ w', Below W5.heap.size W5 w' → w'.cell? ⟨gv, at_ * 3, none⟩ = some (.string y.1.1.nm) ∧ w'.cell? ⟨gv, at_ * 3 + 1, none⟩ = some (.slice q8 n8 d8) ∧ w'.cell? ⟨gv, at_ * 3 + 1 + 1, none⟩ = some (.slice q9 n9 d9) ∧ w'.cell? ⟨X5, 0, none⟩ = some (.string zn) ∧ w'.cell? ⟨X5, 1, none⟩ = some (.slice q5 za d5) ∧ w'.cell? ⟨X5, 2, none⟩ = some (.slice p5 zb e5)) := Lib.hid (fun w' k => by
              have h2 := HB5.out.step0 k
              have h3 := OQ.out w' k
              exact ⟨(h3.cellAt (at_ * 3 + 0) (by omega)).trans (flat_get F at_ y hy 0 _ rfl), ((h3.cellAt (at_ * 3 + 1) (by omega)).trans (flat_get F at_ y hy 1 _ rfl)).trans (by rw [hyv]), ((h3.cellAt (at_ * 3 + 2) (by omega)).trans (flat_get F at_ y hy 2 _ rfl)).trans (by rw [hyw]), h2.cell 0, h2.cell 1, h2.cell 2⟩)
            have AN : Hid (cmpR y.1 z < 0 → ∀ j x, j < at_ + 1 → (F.map (·.1))[j]? = some x → cmpR x z < 0) := Lib.hid (fun hc j x hj hx => by
              by_cases e : j = at_
              · subst e
                rw [List.getElem?_map, hy] at hx
                obtain rfl : y.1 = x := by simpa using hx
                exact hc
              · exact hA.out j x (by omega) hx)
            have HY : Hid ((F.map (·.1))[at_]? = some y.1) := Lib.hid (by rw [List.getElem?_map, hy]; rfl)
            clear hyF hyv hyw hy RL
            generalize hcc : cmpR y.1 z = c at *
            have HCC := Lib.hid hcc
            clear hcc
            generalize y.1.1.nm = yn at *
            go_upto_region 11 with fail
            go_cut [42] (fun s42 wx => s42 = .bool (decide (c < 0)) ∧ Hid (Below W5.heap.size W5 wx))
            case first =>
              obtain ⟨x1, x2, x3, x4, x5, x6⟩ := Hb.out _ (hQ.out.drew)
              have hq0 := Lib.hid hQ.out.drew
              go_region_held3 (fun w' => w'.cell? ⟨gv, at_ * 3, none⟩ = some (.string yn) ∧ w'.cell? ⟨gv, at_ * 3 + 1, none⟩ = some (.slice q8 n8 d8) ∧ w'.cell? ⟨gv, at_ * 3 + 1 + 1, none⟩ = some (.slice q9 n9 d9) ∧ w'.cell? ⟨X5, 0, none⟩ = some (.string zn) ∧ w'.cell? ⟨X5, 1, none⟩ = some (.slice q5 za d5) ∧ w'.cell? ⟨X5, 2, none⟩ = some (.slice p5 zb e5))
                (first | (with_reducible assumption) | (with_reducible exact ⟨‹_›, ‹_›, ‹_›, ‹_›, ‹_›, ‹_›⟩) | (with_reducible refine Hb.out _ ?_; repeat (first | (with_reducible exact Hid.out (by assumption)) | (with_reducible exact Below.refl _ _) | (with_reducible refine Below.drew ?_))))
                (first | (go_at_call 13; (try go_split_ands); (with_reducible refine (KK.out _ (by repeat (first | (with_reducible exact Hid.out (by assumption)) | (with_reducible exact Below.refl _ _) | (with_reducible refine Below.drew ?_)))).mono ?_); rintro e w' ⟨rfl, q0⟩; (have qg : Below W5.heap.size W5 w' := by (refine next0 ?_ q0.1; repeat (first | (with_reducible exact Hid.out (by assumption)) | (with_reducible exact Below.refl _ _) | (with_reducible refine Below.drew ?_)))); clear q0; obtain ⟨x1, x2, x3, x4, x5, x6⟩ := Hb.out _ qg))
              all_goals
                go_wp2_with fail
                go_meet
                exact ⟨rfl, Lib.hid qg⟩
            case rest =>
              obtain ⟨rfl, hQ2⟩ := hcut
              generalize hwx : wc = wx at *
              clear hwx
              by_cases hc : c < 0
              · have A2 := Lib.hid (AN.out hc)
                go_wp2_with fail
                go_roundw
                case rel => exact ⟨at_ + 1, by omega, by go_num, A2, hQ2⟩
                case measure => simp [intOf]; omega
              · clear hQ
                have hQ := hQ2
                go_upto_region 13 with fail
                go_cut [57] (fun s57 wx => s57 = .bool (c == 0) ∧ Hid (Below W5.heap.size W5 wx))
                case first =>
                  obtain ⟨x1, x2, x3, x4, x5, x6⟩ := Hb.out _ (hQ.out.drew)
                  have hq0 := Lib.hid hQ.out.drew
                  go_region_held3 (fun w' => w'.cell? ⟨gv, at_ * 3, none⟩ = some (.string yn) ∧ w'.cell? ⟨gv, at_ * 3 + 1, none⟩ = some (.slice q8 n8 d8) ∧ w'.cell? ⟨gv, at_ * 3 + 1 + 1, none⟩ = some (.slice q9 n9 d9) ∧ w'.cell? ⟨X5, 0, none⟩ = some (.string zn) ∧ w'.cell? ⟨X5, 1, none⟩ = some (.slice q5 za d5) ∧ w'.cell? ⟨X5, 2, none⟩ = some (.slice p5 zb e5))
                    (first | (with_reducible assumption) | (with_reducible exact ⟨‹_›, ‹_›, ‹_›, ‹_›, ‹_›, ‹_›⟩) | (with_reducible refine Hb.out _ ?_; repeat (first | (with_reducible exact Hid.out (by assumption)) | (with_reducible exact Below.refl _ _) | (with_reducible refine Below.drew ?_))))
                    (first | (go_at_call 13; (try go_split_ands); (with_reducible refine (KK.out _ (by repeat (first | (with_reducible exact Hid.out (by assumption)) | (with_reducible exact Below.refl _ _) | (with_reducible refine Below.drew ?_)))).mono ?_); rintro e w' ⟨rfl, q0⟩; (have qg : Below W5.heap.size W5 w' := by (refine next0 ?_ q0.1; repeat (first | (with_reducible exact Hid.out (by assumption)) | (with_reducible exact Below.refl _ _) | (with_reducible refine Below.drew ?_)))); clear q0; obtain ⟨x1, x2, x3, x4, x5, x6⟩ := Hb.out _ qg))
                  all_goals
                    go_wp2_with fail
                    go_meet
                    exact ⟨rfl, Lib.hid qg⟩
                case rest =>
                  obtain ⟨rfl, hQ3⟩ := hcut
                  generalize hwx2 : wc = wy at *
                  clear hwx2
                  by_cases h0 : c = 0
                  · subst h0
                    have hF8 : Hid (MI l (k + 1) (F.map (·.1))) := Lib.hid (by have h := MN0.out; rw [(insr_at z (F.map (·.1)) at_ hA.out (by rw [List.length_map]; omega)).1 y.1 HY.out HCC.out] at h; exact h)
                    have O8 := Lib.hid (OQ.out _ hQ3.out)
                    have XX := Lib.hid (next0 D5.out hQ3.out)
                    have I8 := Lib.hid (I5.out _ hQ3.out)
                    go_wp2_with fail
                    go_roundw
                    case rel => first | exact ⟨k + 1, F, by omega, by go_num, hF8, O8, I8, XX⟩ | ((repeat (apply Exists.intro)); refine ⟨?_, rfl⟩; exact ⟨k + 1, F, by omega, by go_num, hF8, O8, I8, XX⟩)
                    case measure => simp [intOf]; omega
                  · have h0b : (c == 0) = false := by simpa using h0
                    have HCND : Hid (∀ y', (F.map (·.1))[at_]? = some y' → 0 < cmpR y' z) := Lib.hid (fun y' hy' => by
                      rw [HY.out] at hy'
                      obtain rfl := Option.some.inj hy'
                      rw [HCC.out]
                      omega)
                    clear h0 hc KK AN Hb HY
                    have HBx := Lib.hid (HB5.out.step0 hQ3.out)
                    have OX := Lib.hid (own_lt (ex := fun _ => False) O5.out (Lt.of hQ3.out) (fun _ _ h => h))
                    have hqs := hQ3.out.size
                    have NS : Hid (wy.ownsRow wy.heap.size KR.ty 3 (.slice none 0 0) 0 []) := Lib.hid (OwnG.nil (K := KR) _ _).1
                    have A1 : 0 + at_ ≤ maxLen := by unfold maxLen; omega
                    have A2 : (0 + at_) * 64 ≤ 140737488355328 := by omega
                    have A3 : at_ + 1 ≤ maxLen := by unfold maxLen; omega
                    have A4 : (at_ + 1) * 64 ≤ 140737488355328 := by omega
                    have hcap : F.length ≤ vc := by
                      rcases OX.out.2 with ⟨e, _⟩ | ⟨g', cap, cur, e, _, _, h4, _⟩
                      · cases e
                      · injection e with _ _ e3; omega
                    have A0 : (KR.flat (F.take at_)).length = at_ * 3 := by rw [flat_len, List.length_take]; omega
                    have A6 : (KR.flat (F.drop at_)).length = (F.length - at_) * 3 := by rw [flat_len, List.length_drop]
                    have A7 : at_ + 1 + (F.length - at_) ≤ maxLen := by unfold maxLen; omega
                    have A8 : (at_ + 1 + (F.length - at_)) * 64 ≤ 140737488355328 := by omega
                    have ON1 := Lib.hid (one_allR (F.take at_) fun x hx => formR (I5.out W5 (Below.refl _ _) x (List.mem_of_mem_take hx)))
                    have ON3 := Lib.hid (one_allR (F.drop at_) fun x hx => formR (I5.out W5 (Below.refl _ _) x (List.mem_of_mem_drop hx)))
                    have PC1 : Hid (∀ j u, (KR.flat (F.take at_))[j]? = some u → wy.cell? ((⟨gv, 0, none⟩ : Addr).add j) = some u) := Lib.hid (fun j u hu => by have := part_cellsR OX.out rfl 0 (F.take at_) (Nat.zero_le _) ⟨F.drop at_, by simp⟩ j u hu; simpa using this)
                    go_upto_region 16 with (at_builtin; go_must (refine wpList_append_own_at _ rfl _ _ 37 rfl wy.heap.size 27 i0 (.agg #[.string ⟨#[]⟩, .slice none 0 0, .slice none 0 0]) 3 64 Tryz.underlying37 hi0 hi1 hi2 hi3 rfl (by decide) (.slice none 0 0) 0 [] rfl NS.out ⟨gv, 0, none⟩ at_ _ (KR.flat (F.take at_)) rfl A0 PC1.out ON1.out A1 A2 (Nat.le_refl _) ?_; intro v1 w1 hown1 hgrow1 hnn1 hob1; clear hnn1 hob1; have D1 := Lib.hid ((Below.refl wy.heap.size wy).grown hgrow1 (Nat.le_refl _) (fun j hj => (NS.out.lt j hj).1)); have O1 : Hid (w1.ownsRow wy.heap.size KR.ty 3 v1 at_ (KR.flat (F.take at_))) := Lib.hid (by have h := hown1; rw [Nat.zero_add] at h; exact h); clear hown1 hgrow1; obtain ⟨a1, e1, rfl⟩ := form1 O1.out))
                    have HB1 := Lib.hid (HBx.out.step0 D1.out)
                    have d1s := D1.out.size
                    obtain ⟨z1, z2, z3, z4, z5, z6, z7⟩ := UnpP.has3 HB1.out
                    have A5 : wy.heap.size ≤ (w1.alloc (.cells #[.string zn, .slice q5 za d5, .slice p5 zb e5] 27)).heap.size := by simp <;> omega
                    go_upto_region 17 with (at_builtin; go_must (refine wpList_append_lies _ rfl _ _ 37 rfl wy.heap.size 27 i0 (.agg #[.string ⟨#[]⟩, .slice none 0 0, .slice none 0 0]) 3 64 Tryz.underlying37 hi0 hi1 hi2 hi3 rfl (by decide) (.slice a1 at_ e1) at_ (KR.flat (F.take at_)) rfl (O1.out.alloc _) ⟨w1.heap.size, 0, none⟩ 1 1 [.string zn, .slice q5 za d5, .slice p5 zb e5] rfl rfl (newsK _ _ _ _ _) (one_R _ _ _ _ _ _ _) (by decide) A3 A4 A5 (w1.heap.size + 1) (by simp) ?_; intro g2 c2 w2 hown2 hgrow2 hat2 hlt2; have O2 := Lib.hid hown2; have D2 := Lib.hid ((D1.out.alloc (by exact D1.out.size) (.cells #[.string zn, .slice q5 za d5, .slice p5 zb e5] 27)).grown hgrow2 (by simp <;> omega) (fun j hj => (O1.out.lt j hj).1)); clear hown2 hgrow2 hat2 hlt2))
                    have d2s := D2.out.size
                    clear z1 z2 z3 z4 z5 z6 z7
                    have PC3 := Lib.hid (part_cellsR (own_lt (ex := fun _ => False) OX.out (Lt.of D2.out) (fun _ _ h => h)) rfl at_ (F.drop at_) (by omega) ⟨[], by simp⟩)
                    go_wp2_with (at_builtin; go_must (refine wpList_append_own_at _ rfl _ _ 37 rfl wy.heap.size 27 i0 (.agg #[.string ⟨#[]⟩, .slice none 0 0, .slice none 0 0]) 3 64 Tryz.underlying37 hi0 hi1 hi2 hi3 rfl (by decide) (.slice (some ⟨g2, 0, none⟩) (at_ + 1) c2) (at_ + 1) _ rfl O2.out ⟨gv, at_ * 3, none⟩ (F.length - at_) _ (KR.flat (F.drop at_)) rfl A6 PC3.out ON3.out A7 A8 (by omega) ?_; intro v3 w3 hown3 hgrow3 hnn3 hob3; clear hnn3 hob3; obtain ⟨n3, hn3⟩ : ∃ n3, n3 = at_ + 1 + (F.length - at_) := ⟨_, rfl⟩; have O3 := Lib.hid hown3; rw [← hn3] at O3; have HN3 := Lib.hid hn3; clear hn3; obtain ⟨a3, e3, rfl⟩ := form1 O3.out; have D3 := Lib.hid (D2.out.grown hgrow3 (by omega) (fun j hj => (O2.out.lt j hj).1)); clear hown3 hgrow3))
                    have O4 : Hid (w3.ownsRow w.heap.size KR.ty 3 (.slice a3 n3 e3) (F.take at_ ++ zl :: F.drop at_).length (KR.flat (F.take at_ ++ zl :: F.drop at_))) := Lib.hid (by
                      have hn : n3 = (F.take at_ ++ zl :: F.drop at_).length := by have := HN3.out; rw [List.length_append, List.length_cons, List.length_take, List.length_drop]; omega
                      rw [← hn, ← new_rowR, ZC.out]
                      exact own_base O3.out (by omega))
                    have G3 := Lib.hid (next0 hQ3.out D3.out)
                    have HF8 : Hid (MI l (k + 1) ((F.take at_ ++ zl :: F.drop at_).map (·.1))) := Lib.hid (by have h := MN0.out; rw [(insr_at z (F.map (·.1)) at_ hA.out (by rw [List.length_map]; omega)).2 HCND.out] at h; rw [hM9.out, List.map_take, List.map_drop]; exact h)
                    have HI8 : Hid (∀ x ∈ (F.take at_ ++ zl :: F.drop at_), KR.inn (fun b => w.heap.size ≤ b ∧ b < w3.heap.size) w3 x) := Lib.hid (fun x hx => by
                      rcases List.mem_append.1 hx with hx | hx
                      · exact I5.out _ G3.out x (List.mem_of_mem_take hx)
                      · rcases List.mem_cons.1 hx with rfl | hx
                        · exact Z5.out _ G3.out
                        · exact I5.out _ G3.out x (List.mem_of_mem_drop hx))
                    have D8 := Lib.hid (next0 D5.out G3.out)
                    go_wp2_with fail
                    go_roundw
                    case rel => first | exact ⟨k + 1, (F.take at_ ++ zl :: F.drop at_), by omega, by go_num, HF8, O4, HI8, D8⟩ | ((repeat (apply Exists.intro)); refine ⟨?_, rfl⟩; exact ⟨k + 1, (F.take at_ ++ zl :: F.drop at_), by omega, by go_num, HF8, O4, HI8, D8⟩)
                    case measure => simp [intOf]; omega
          · have HCND : Hid (∀ y', (F.map (·.1))[at_]? = some y' → 0 < cmpR y' z) := Lib.hid (fun y' hy' => by
              rw [List.getElem?_eq_none (by rw [List.length_map]; omega)] at hy'
              cases hy')
            go_upto_region 11 with fail
            go_cut [42] (fun s42 wx => s42 = .bool false ∧ Hid (Below W5.heap.size W5 wx))
            case first =>
              go_quiet (fail)
              go_wp2_with fail
              go_meet
              exact ⟨rfl, Lib.hid (below_drewN hQ.out _)⟩
            case rest =>
              obtain ⟨rfl, hQ2⟩ := hcut
              generalize hwx : wc = wx at *
              clear hwx
              go_upto_region 13 with fail
              go_cut [57] (fun s57 wx => s57 = .bool false ∧ Hid (Below W5.heap.size W5 wx))
              case first =>
                go_quiet (fail)
                go_wp2_with fail
                go_meet
                exact ⟨rfl, Lib.hid (below_drewN hQ2.out _)⟩
              case rest =>
                obtain ⟨rfl, hQ3⟩ := hcut
                generalize hwy : wc = wy at *
                clear hwy ha
                rcases O5.out.2 with ⟨e0, hz0⟩ | ⟨gv, cap, cur, e0, _⟩
                · injection e0 with e1 _ e3
                  subst e1
                  subst e3
                  have FE := List.eq_nil_of_length_eq_zero hz0
                  have FE := Lib.hid FE
                  obtain rfl : at_ = 0 := by omega
                  have HBx := Lib.hid (HB5.out.step0 hQ3.out)
                  have OX := Lib.hid (own_lt (ex := fun _ => False) O5.out (Lt.of hQ3.out) (fun _ _ h => h))
                  have hqs := hQ3.out.size
                  have NS : Hid (wy.ownsRow wy.heap.size KR.ty 3 (.slice none 0 0) 0 []) := Lib.hid (OwnG.nil (K := KR) _ _).1
                  have A1 : 0 + 0 ≤ maxLen := by unfold maxLen; omega
                  have A2 : (0 + 0) * 64 ≤ 140737488355328 := by omega
                  have A3 : 0 + 1 ≤ maxLen := by unfold maxLen; omega
                  have A4 : (0 + 1) * 64 ≤ 140737488355328 := by omega
                  go_upto_region 16 with (at_builtin; refine wpList_append_own_none rfl _ _ 37 rfl wy.heap.size 27 i0 3 Tryz.underlying37 hi0 _ 0 [] rfl NS.out rfl ?_)
                  have D1 : Hid (Below wy.heap.size wy wy) := Lib.hid (Below.refl _ _)
                  have O1 : Hid (wy.ownsRow wy.heap.size KR.ty 3 (.slice none 0 0) 0 []) := NS
                  have HB1 := HBx
                  have d1s := D1.out.size
                  obtain ⟨z1, z2, z3, z4, z5, z6, z7⟩ := UnpP.has3 HB1.out
                  have A5 : wy.heap.size ≤ (wy.alloc (.cells #[.string zn, .slice q5 za d5, .slice p5 zb e5] 27)).heap.size := by simp <;> omega
                  go_upto_region 17 with (at_builtin; go_must (refine wpList_append_lies _ rfl _ _ 37 rfl wy.heap.size 27 i0 (.agg #[.string ⟨#[]⟩, .slice none 0 0, .slice none 0 0]) 3 64 Tryz.underlying37 hi0 hi1 hi2 hi3 rfl (by decide) (.slice none 0 0) 0 [] rfl (O1.out.alloc _) ⟨wy.heap.size, 0, none⟩ 1 1 [.string zn, .slice q5 za d5, .slice p5 zb e5] rfl rfl (newsK _ _ _ _ _) (one_R _ _ _ _ _ _ _) (by decide) A3 A4 A5 (wy.heap.size + 1) (by simp) ?_; intro g2 c2 w2 hown2 hgrow2 hat2 hlt2; have O2 := Lib.hid hown2; have D2 := Lib.hid ((D1.out.alloc (by exact D1.out.size) (.cells #[.string zn, .slice q5 za d5, .slice p5 zb e5] 27)).grown hgrow2 (by simp <;> omega) (fun j hj => (O1.out.lt j hj).1)); clear hown2 hgrow2 hat2 hlt2))
                  have d2s := D2.out.size
                  clear z1 z2 z3 z4 z5 z6 z7
                  go_wp2_with (at_builtin; refine wpList_append_own_none rfl _ _ 37 rfl wy.heap.size 27 i0 3 Tryz.underlying37 hi0 _ (0 + 1) _ rfl O2.out rfl ?_)
                  have D3 := D2
                  have O4 : Hid (w2.ownsRow w.heap.size KR.ty 3 (.slice (some ⟨g2, 0, none⟩) (0 + 1) c2) (F.take 0 ++ zl :: F.drop 0).length (KR.flat (F.take 0 ++ zl :: F.drop 0))) := Lib.hid (by
                    rw [FE.out, show ([] : List (Rl × Value × Value)).take 0 ++ zl :: ([] : List (Rl × Value × Value)).drop 0 = [zl] from rfl, flat_one, ZC.out]
                    exact own_base O2.out (by omega))
                  have G3 := Lib.hid (next0 hQ3.out D3.out)
                  have HF8 : Hid (MI l (k + 1) ((F.take 0 ++ zl :: F.drop 0).map (·.1))) := Lib.hid (by have h := MN0.out; rw [(insr_at z (F.map (·.1)) 0 hA.out (by rw [List.length_map]; omega)).2 HCND.out] at h; rw [hM9.out, List.map_take, List.map_drop]; exact h)
                  have HI8 : Hid (∀ x ∈ (F.take 0 ++ zl :: F.drop 0), KR.inn (fun b => w.heap.size ≤ b ∧ b < w2.heap.size) w2 x) := Lib.hid (fun x hx => by
                    rcases List.mem_append.1 hx with hx | hx
                    · exact I5.out _ G3.out x (List.mem_of_mem_take hx)
                    · rcases List.mem_cons.1 hx with rfl | hx
                      · exact Z5.out _ G3.out
                      · exact I5.out _ G3.out x (List.mem_of_mem_drop hx))
                  have D8 := Lib.hid (next0 D5.out G3.out)
                  go_wp2_with fail
                  go_roundw
                  case rel => first | exact ⟨k + 1, (F.take 0 ++ zl :: F.drop 0), by omega, by go_num, HF8, O4, HI8, D8⟩ | ((repeat (apply Exists.intro)); refine ⟨?_, rfl⟩; exact ⟨k + 1, (F.take 0 ++ zl :: F.drop 0), by omega, by go_num, HF8, O4, HI8, D8⟩)
                  case measure => simp [intOf]; omega
                · injection e0 with e1 _ e3
                  subst e1
                  clear e3
                  by_cases hvc : at_ < vc
                  · skip
                    have HBx := Lib.hid (HB5.out.step0 hQ3.out)
                    have OX := Lib.hid (own_lt (ex := fun _ => False) O5.out (Lt.of hQ3.out) (fun _ _ h => h))
                    have hqs := hQ3.out.size
                    have NS : Hid (wy.ownsRow wy.heap.size KR.ty 3 (.slice none 0 0) 0 []) := Lib.hid (OwnG.nil (K := KR) _ _).1
                    have A1 : 0 + at_ ≤ maxLen := by unfold maxLen; omega
                    have A2 : (0 + at_) * 64 ≤ 140737488355328 := by omega
                    have A3 : at_ + 1 ≤ maxLen := by unfold maxLen; omega
                    have A4 : (at_ + 1) * 64 ≤ 140737488355328 := by omega
                    have hcap : F.length ≤ vc := by
                      rcases OX.out.2 with ⟨e, _⟩ | ⟨g', cap, cur, e, _, _, h4, _⟩
                      · cases e
                      · injection e with _ _ e3; omega
                    have A0 : (KR.flat (F.take at_)).length = at_ * 3 := by rw [flat_len, List.length_take]; omega
                    have A6 : (KR.flat (F.drop at_)).length = (F.length - at_) * 3 := by rw [flat_len, List.length_drop]
                    have A7 : at_ + 1 + (F.length - at_) ≤ maxLen := by unfold maxLen; omega
                    have A8 : (at_ + 1 + (F.length - at_)) * 64 ≤ 140737488355328 := by omega
                    have ON1 := Lib.hid (one_allR (F.take at_) fun x hx => formR (I5.out W5 (Below.refl _ _) x (List.mem_of_mem_take hx)))
                    have ON3 := Lib.hid (one_allR (F.drop at_) fun x hx => formR (I5.out W5 (Below.refl _ _) x (List.mem_of_mem_drop hx)))
                    have PC1 : Hid (∀ j u, (KR.flat (F.take at_))[j]? = some u → wy.cell? ((⟨gv, 0, none⟩ : Addr).add j) = some u) := Lib.hid (fun j u hu => by have := part_cellsR OX.out rfl 0 (F.take at_) (Nat.zero_le _) ⟨F.drop at_, by simp⟩ j u hu; simpa using this)
                    go_upto_region 16 with (at_builtin; go_must (refine wpList_append_own_at _ rfl _ _ 37 rfl wy.heap.size 27 i0 (.agg #[.string ⟨#[]⟩, .slice none 0 0, .slice none 0 0]) 3 64 Tryz.underlying37 hi0 hi1 hi2 hi3 rfl (by decide) (.slice none 0 0) 0 [] rfl NS.out ⟨gv, 0, none⟩ at_ _ (KR.flat (F.take at_)) rfl A0 PC1.out ON1.out A1 A2 (Nat.le_refl _) ?_; intro v1 w1 hown1 hgrow1 hnn1 hob1; clear hnn1 hob1; have D1 := Lib.hid ((Below.refl wy.heap.size wy).grown hgrow1 (Nat.le_refl _) (fun j hj => (NS.out.lt j hj).1)); have O1 : Hid (w1.ownsRow wy.heap.size KR.ty 3 v1 at_ (KR.flat (F.take at_))) := Lib.hid (by have h := hown1; rw [Nat.zero_add] at h; exact h); clear hown1 hgrow1; obtain ⟨a1, e1, rfl⟩ := form1 O1.out))
                    have HB1 := Lib.hid (HBx.out.step0 D1.out)
                    have d1s := D1.out.size
                    obtain ⟨z1, z2, z3, z4, z5, z6, z7⟩ := UnpP.has3 HB1.out
                    have A5 : wy.heap.size ≤ (w1.alloc (.cells #[.string zn, .slice q5 za d5, .slice p5 zb e5] 27)).heap.size := by simp <;> omega
                    go_upto_region 17 with (at_builtin; go_must (refine wpList_append_lies _ rfl _ _ 37 rfl wy.heap.size 27 i0 (.agg #[.string ⟨#[]⟩, .slice none 0 0, .slice none 0 0]) 3 64 Tryz.underlying37 hi0 hi1 hi2 hi3 rfl (by decide) (.slice a1 at_ e1) at_ (KR.flat (F.take at_)) rfl (O1.out.alloc _) ⟨w1.heap.size, 0, none⟩ 1 1 [.string zn, .slice q5 za d5, .slice p5 zb e5] rfl rfl (newsK _ _ _ _ _) (one_R _ _ _ _ _ _ _) (by decide) A3 A4 A5 (w1.heap.size + 1) (by simp) ?_; intro g2 c2 w2 hown2 hgrow2 hat2 hlt2; have O2 := Lib.hid hown2; have D2 := Lib.hid ((D1.out.alloc (by exact D1.out.size) (.cells #[.string zn, .slice q5 za d5, .slice p5 zb e5] 27)).grown hgrow2 (by simp <;> omega) (fun j hj => (O1.out.lt j hj).1)); clear hown2 hgrow2 hat2 hlt2))
                    have d2s := D2.out.size
                    clear z1 z2 z3 z4 z5 z6 z7
                    have PC3 := Lib.hid (part_cellsR (own_lt (ex := fun _ => False) OX.out (Lt.of D2.out) (fun _ _ h => h)) rfl at_ (F.drop at_) (by omega) ⟨[], by simp⟩)
                    go_wp2_with (at_builtin; go_must (refine wpList_append_own_at _ rfl _ _ 37 rfl wy.heap.size 27 i0 (.agg #[.string ⟨#[]⟩, .slice none 0 0, .slice none 0 0]) 3 64 Tryz.underlying37 hi0 hi1 hi2 hi3 rfl (by decide) (.slice (some ⟨g2, 0, none⟩) (at_ + 1) c2) (at_ + 1) _ rfl O2.out ⟨gv, at_ * 3, none⟩ (F.length - at_) _ (KR.flat (F.drop at_)) rfl A6 PC3.out ON3.out A7 A8 (by omega) ?_; intro v3 w3 hown3 hgrow3 hnn3 hob3; clear hnn3 hob3; obtain ⟨n3, hn3⟩ : ∃ n3, n3 = at_ + 1 + (F.length - at_) := ⟨_, rfl⟩; have O3 := Lib.hid hown3; rw [← hn3] at O3; have HN3 := Lib.hid hn3; clear hn3; obtain ⟨a3, e3, rfl⟩ := form1 O3.out; have D3 := Lib.hid (D2.out.grown hgrow3 (by omega) (fun j hj => (O2.out.lt j hj).1)); clear hown3 hgrow3))
                    have O4 : Hid (w3.ownsRow w.heap.size KR.ty 3 (.slice a3 n3 e3) (F.take at_ ++ zl :: F.drop at_).length (KR.flat (F.take at_ ++ zl :: F.drop at_))) := Lib.hid (by
                      have hn : n3 = (F.take at_ ++ zl :: F.drop at_).length := by have := HN3.out; rw [List.length_append, List.length_cons, List.length_take, List.length_drop]; omega
                      rw [← hn, ← new_rowR, ZC.out]
                      exact own_base O3.out (by omega))
                    have G3 := Lib.hid (next0 hQ3.out D3.out)
                    have HF8 : Hid (MI l (k + 1) ((F.take at_ ++ zl :: F.drop at_).map (·.1))) := Lib.hid (by have h := MN0.out; rw [(insr_at z (F.map (·.1)) at_ hA.out (by rw [List.length_map]; omega)).2 HCND.out] at h; rw [hM9.out, List.map_take, List.map_drop]; exact h)
                    have HI8 : Hid (∀ x ∈ (F.take at_ ++ zl :: F.drop at_), KR.inn (fun b => w.heap.size ≤ b ∧ b < w3.heap.size) w3 x) := Lib.hid (fun x hx => by
                      rcases List.mem_append.1 hx with hx | hx
                      · exact I5.out _ G3.out x (List.mem_of_mem_take hx)
                      · rcases List.mem_cons.1 hx with rfl | hx
                        · exact Z5.out _ G3.out
                        · exact I5.out _ G3.out x (List.mem_of_mem_drop hx))
                    have D8 := Lib.hid (next0 D5.out G3.out)
                    go_wp2_with fail
                    go_roundw
                    case rel => first | exact ⟨k + 1, (F.take at_ ++ zl :: F.drop at_), by omega, by go_num, HF8, O4, HI8, D8⟩ | ((repeat (apply Exists.intro)); refine ⟨?_, rfl⟩; exact ⟨k + 1, (F.take at_ ++ zl :: F.drop at_), by omega, by go_num, HF8, O4, HI8, D8⟩)
                    case measure => simp [intOf]; omega
                  · have hcap0 : F.length ≤ vc := by
                      rcases O5.out.2 with ⟨e, _⟩ | ⟨g', cap, cur, e, _, _, h4, _⟩
                      · cases e
                      · injection e with _ _ e3; omega
                    obtain rfl : vc = at_ := by omega
                    have hfl : F.length = vc := by omega
                    have HFL := Lib.hid hfl
                    clear hfl
                    have HBx := Lib.hid (HB5.out.step0 hQ3.out)
                    have OX := Lib.hid (own_lt (ex := fun _ => False) O5.out (Lt.of hQ3.out) (fun _ _ h => h))
                    have hqs := hQ3.out.size
                    have NS : Hid (wy.ownsRow wy.heap.size KR.ty 3 (.slice none 0 0) 0 []) := Lib.hid (OwnG.nil (K := KR) _ _).1
                    have A1 : 0 + vc ≤ maxLen := by have := HFL.out; unfold maxLen; omega
                    have A2 : (0 + vc) * 64 ≤ 140737488355328 := by have := HFL.out; omega
                    have A3 : vc + 1 ≤ maxLen := by have := HFL.out; unfold maxLen; omega
                    have A4 : (vc + 1) * 64 ≤ 140737488355328 := by have := HFL.out; omega
                    have A0 : (KR.flat (F.take vc)).length = vc * 3 := by have := HFL.out; rw [flat_len, List.length_take]; omega
                    have A6 : ([] : List Value).length = 0 * 3 := rfl
                    have A7 : vc + 1 + 0 ≤ maxLen := by have := HFL.out; unfold maxLen; omega
                    have A8 : (vc + 1 + 0) * 64 ≤ 140737488355328 := by have := HFL.out; omega
                    have hcap : F.length ≤ vc := by have := HFL.out; omega
                    have ON1 := Lib.hid (one_allR (F.take vc) fun x hx => formR (I5.out W5 (Below.refl _ _) x (List.mem_of_mem_take hx)))
                    have ON3 : Hid (∀ u ∈ ([] : List Value), u.oneCell' = true) := Lib.hid (fun u h => by simp at h)
                    have PC1 : Hid (∀ j u, (KR.flat (F.take vc))[j]? = some u → wy.cell? ((⟨gv, 0, none⟩ : Addr).add j) = some u) := Lib.hid (fun j u hu => by have := part_cellsR OX.out rfl 0 (F.take vc) (Nat.zero_le _) ⟨F.drop vc, by simp⟩ j u hu; simpa using this)
                    go_upto_region 16 with (at_builtin; go_must (refine wpList_append_own_at _ rfl _ _ 37 rfl wy.heap.size 27 i0 (.agg #[.string ⟨#[]⟩, .slice none 0 0, .slice none 0 0]) 3 64 Tryz.underlying37 hi0 hi1 hi2 hi3 rfl (by decide) (.slice none 0 0) 0 [] rfl NS.out ⟨gv, 0, none⟩ vc _ (KR.flat (F.take vc)) rfl A0 PC1.out ON1.out A1 A2 (Nat.le_refl _) ?_; intro v1 w1 hown1 hgrow1 hnn1 hob1; clear hnn1 hob1; have D1 := Lib.hid ((Below.refl wy.heap.size wy).grown hgrow1 (Nat.le_refl _) (fun j hj => (NS.out.lt j hj).1)); have O1 : Hid (w1.ownsRow wy.heap.size KR.ty 3 v1 vc (KR.flat (F.take vc))) := Lib.hid (by have h := hown1; rw [Nat.zero_add] at h; exact h); clear hown1 hgrow1; obtain ⟨a1, e1, rfl⟩ := form1 O1.out))
                    have HB1 := Lib.hid (HBx.out.step0 D1.out)
                    have d1s := D1.out.size
                    obtain ⟨z1, z2, z3, z4, z5, z6, z7⟩ := UnpP.has3 HB1.out
                    have A5 : wy.heap.size ≤ (w1.alloc (.cells #[.string zn, .slice q5 za d5, .slice p5 zb e5] 27)).heap.size := by simp <;> omega
                    go_upto_region 17 with (at_builtin; go_must (refine wpList_append_lies _ rfl _ _ 37 rfl wy.heap.size 27 i0 (.agg #[.string ⟨#[]⟩, .slice none 0 0, .slice none 0 0]) 3 64 Tryz.underlying37 hi0 hi1 hi2 hi3 rfl (by decide) (.slice a1 vc e1) vc (KR.flat (F.take vc)) rfl (O1.out.alloc _) ⟨w1.heap.size, 0, none⟩ 1 1 [.string zn, .slice q5 za d5, .slice p5 zb e5] rfl rfl (newsK _ _ _ _ _) (one_R _ _ _ _ _ _ _) (by decide) A3 A4 A5 (w1.heap.size + 1) (by simp) ?_; intro g2 c2 w2 hown2 hgrow2 hat2 hlt2; have O2 := Lib.hid hown2; have D2 := Lib.hid ((D1.out.alloc (by exact D1.out.size) (.cells #[.string zn, .slice q5 za d5, .slice p5 zb e5] 27)).grown hgrow2 (by simp <;> omega) (fun j hj => (O1.out.lt j hj).1)); clear hown2 hgrow2 hat2 hlt2))
                    have d2s := D2.out.size
                    clear z1 z2 z3 z4 z5 z6 z7
                    have PC3 : Hid (∀ j u, ([] : List Value)[j]? = some u → w2.cell? ((⟨gv, 0, none⟩ : Addr).add j) = some u) := Lib.hid (fun j u h => by simp at h)
                    go_wp2_with (at_builtin; go_must (refine wpList_append_own_at _ rfl _ _ 37 rfl wy.heap.size 27 i0 (.agg #[.string ⟨#[]⟩, .slice none 0 0, .slice none 0 0]) 3 64 Tryz.underlying37 hi0 hi1 hi2 hi3 rfl (by decide) (.slice (some ⟨g2, 0, none⟩) (vc + 1) c2) (vc + 1) _ rfl O2.out ⟨gv, 0, none⟩ 0 _ [] rfl A6 PC3.out ON3.out A7 A8 (by omega) ?_; intro v3 w3 hown3 hgrow3 hnn3 hob3; clear hnn3 hob3; obtain ⟨n3, hn3⟩ : ∃ n3, n3 = vc + 1 + 0 := ⟨_, rfl⟩; have O3 := Lib.hid hown3; rw [← hn3] at O3; have HN3 := Lib.hid hn3; clear hn3; obtain ⟨a3, e3, rfl⟩ := form1 O3.out; have D3 := Lib.hid (D2.out.grown hgrow3 (by omega) (fun j hj => (O2.out.lt j hj).1)); clear hown3 hgrow3))
                    have O4 : Hid (w3.ownsRow w.heap.size KR.ty 3 (.slice a3 n3 e3) (F.take vc ++ zl :: F.drop vc).length (KR.flat (F.take vc ++ zl :: F.drop vc))) := Lib.hid (by
                      have hn : n3 = (F.take vc ++ zl :: F.drop vc).length := by have := HN3.out; have := HFL.out; rw [List.length_append, List.length_cons, List.length_take, List.length_drop]; omega
                      rw [← hn, ← new_rowR, ZC.out, List.drop_eq_nil_of_le (by have := HFL.out; omega)]
                      exact own_base O3.out (by omega))
                    have G3 := Lib.hid (next0 hQ3.out D3.out)
                    have HF8 : Hid (MI l (k + 1) ((F.take vc ++ zl :: F.drop vc).map (·.1))) := Lib.hid (by have h := MN0.out; rw [(insr_at z (F.map (·.1)) vc hA.out (by have := HFL.out; rw [List.length_map]; omega)).2 HCND.out] at h; rw [hM9.out, List.map_take, List.map_drop]; exact h)
                    have HI8 : Hid (∀ x ∈ (F.take vc ++ zl :: F.drop vc), KR.inn (fun b => w.heap.size ≤ b ∧ b < w3.heap.size) w3 x) := Lib.hid (fun x hx => by
                      rcases List.mem_append.1 hx with hx | hx
                      · exact I5.out _ G3.out x (List.mem_of_mem_take hx)
                      · rcases List.mem_cons.1 hx with rfl | hx
                        · exact Z5.out _ G3.out
                        · exact I5.out _ G3.out x (List.mem_of_mem_drop hx))
                    have D8 := Lib.hid (next0 D5.out G3.out)
                    go_wp2_with fail
                    go_roundw
                    case rel => first | exact ⟨k + 1, (F.take vc ++ zl :: F.drop vc), by omega, by go_num, HF8, O4, HI8, D8⟩ | ((repeat (apply Exists.intro)); refine ⟨?_, rfl⟩; exact ⟨k + 1, (F.take vc ++ zl :: F.drop vc), by omega, by go_num, HF8, O4, HI8, D8⟩)
                    case measure => simp [intOf]; omega
      · have hcc : (c != 0) = true := by simpa using hc0
        have CB1 := Lib.hid (MB.out hc0)
        have HC0 := Lib.hid hc0
        clear hc0 MB MN
        go_wp2_with fail
        refine bodyPost_ret (v := .tuple #[.slice none 0 0, .int .i64 c]) (by simp [results, Tryz.results21, go_sem]) rfl ?_
        exact rlr_bad CB1.out HC0.out D5.out
    · obtain rfl : k = n := by omega
      have E6 := Lib.hid (ME.out _ hM.out)
      have R6 := Lib.hid (row_mixK hO.out hI.out (fun b h1 h2 => ⟨h1, h2⟩))
      clear hM hO hI
      go_wp2_with fail
      refine bodyPost_ret (v := .tuple #[.slice va F.length vc, .int .i64 0]) (by simp [results, Tryz.results21, go_sem]) rfl ?_
      exact ⟨F.map (·.1), _, by rw [E6.out.1], E6.out.2, ⟨F, rfl, R6.out⟩, hD.out⟩
end NolP
end Go.Proofs.YtdkpflojdnkbnaaGreatDoor
