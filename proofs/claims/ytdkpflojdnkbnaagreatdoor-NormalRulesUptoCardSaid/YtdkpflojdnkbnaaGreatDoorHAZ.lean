/- Texts laid together: UniH; UnrI. Their own heads stand before each. -/
import Derived.Test.YtdkpflojdnkbnaaGreatDoorHAG
import Derived.Deep.RegionWith
/- The reference's Apply of substitutions. Conditions: the substitution binds variables alone; terms of at most a million parts. -/
namespace Go.Proofs.YtdkpflojdnkbnaaGreatDoor
open Go Go.RowKit
namespace UniH
open LexM TermM TermI Kit TermN TermU UniK UniM UniA UniC UniD UniE UniG
theorem below_ret {w w4 : World} {g : Nat} (h : Below w.heap.size w w4) (hg : w.heap.size ≤ g) (x y : Value) (o : Obj) : Below w.heap.size w (((w4.setCell ⟨g, 0, none⟩ x).setCell ⟨g, 1, none⟩ y).alloc o) :=
  next0 ((h.setCell (p := ⟨g, 0, none⟩) hg x).setCell (p := ⟨g, 1, none⟩) hg y) (below_alloc _ _)
/-- What the reference's Apply leaves: the term, in blocks below B or in new ones. -/
def RApR (B : Nat) (u : Tm) (w : World) (e : Ending) (w' : World) : Prop :=
  ∃ (q : Option Addr) (d : Nat), e = .returned (.agg #[.string u.nm, .slice q u.args.length d]) ∧ SlIn (fun b => b < B ∨ (w.heap.size ≤ b ∧ b < w'.heap.size)) w' u.args (.slice q u.args.length d) ∧ u.nm.size ≤ maxLen ∧ Below w.heap.size w w'
theorem look_var {s : List Bd} (hV : ∀ b ∈ s, varB b.1 = true) {n : ByteArray} (hn : varB n = false) : lookS s n = none := by
  unfold lookS
  rw [List.find?_eq_none.2 (fun y hy he => by
    rw [eqB_iff] at he
    rw [← he, hV y hy] at hn
    cases hn)]
  rfl
theorem app_same {s : List Bd} (hV : ∀ b ∈ s, varB b.1 = true) (n : ByteArray) (l : List Tm) (h : isV (.mk n l) = false) : appT s (.mk n l) = .mk n (l.map (appT s)) := by
  unfold appT
  cases l with
  | nil =>
    have : varB n = false := by simpa [isV, Tm.args, Tm.nm] using h
    simp [look_var hV this]
  | cons a l => simp [appL_map]
end UniH
end Go.Proofs.YtdkpflojdnkbnaaGreatDoor
/- The reference's Apply of substitutions by terms without arguments: what comes back lies in new blocks. Conditions: the substitution binds variables alone; terms of at most a million parts. Made by genrapply0.py out of UniH. -/
namespace Go.Proofs.YtdkpflojdnkbnaaGreatDoor
open Go Go.RowKit
namespace UnrI
open LexM TermM TermI Kit TermN TermU UniK UniM UniA UniC UniD UniE UniG UniH
theorem slin_any {ok ok' : Nat → Prop} {w w' : World} {l : List Tm} {v : Value} (hl : l = []) (h : SlIn ok w l v) : SlIn ok' w' l v := by
  cases h with
  | mk p c l V b o hp hn hc hm h1 h2 =>
    subst hl
    exact .mk p c [] (fun _ => undef) 0 0 (fun h => absurd rfl h) hn hc hm (fun i t h => by simp at h) (fun i t h => by simp at h)
theorem look_leaf {s : List Bd} (hF : ∀ b ∈ s, b.2.args = []) {n : ByteArray} {u : Tm} (h : lookS s n = some u) : u.args = [] := by
  unfold lookS at h
  obtain ⟨b, h1, h2⟩ := Option.map_eq_some_iff.1 h
  rw [← h2]
  exact hF b (List.mem_of_find?_eq_some h1)
set_option maxRecDepth 100000 in
set_option maxHeartbeats 6400000 in
theorem rapply_var0 (s : List Bd) (hF : ∀ b ∈ s, b.2.args = []) (n : ByteArray) (B : Nat) (w : World) (sv : Value) (p : Option Addr) (c : Nat) (hB : B ≤ w.heap.size) (hs : SIn (· < B) w s sv) (h : SlIn (· < B) w [] (.slice p 0 c)) (hn : n.size ≤ maxLen) (hv : isV (.mk n []) = true) :
    Calls Tryz.prog 79 #[sv, .agg #[.string n, .slice p 0 c]] w (RApR 0 ((lookS s n).getD (.mk n [])) w) := by
  have CV := Lib.hid (fun w' => rvar_t (.mk n []) p c w' hn)
  rw [hv] at CV
  dsimp only [Tm.nm, Tm.args, List.length_nil] at CV
  have CL := Lib.hid (fun w' (k : Below w.heap.size w w') => rlookup_any s n B w' sv (Nat.le_trans hB k.size) (hs.deep k hB))
  obtain ⟨W2, hW2⟩ : ∃ W2, W2 = (w.alloc (.cells #[.string n, .slice p 0 c] 24)).alloc (.cells #[.string ⟨#[]⟩, .slice none 0 0] 24) := ⟨_, rfl⟩
  have G2 : Gr w W2 := by rw [hW2]; exact (Gr.alloc _ _).more _
  have hz2w : w.heap.size + 2 ≤ W2.heap.size := by rw [hW2]; simp
  have H2 : Hid (Has W2 w.heap.size #[.string n, .slice p 0 c]) := Lib.hid (by rw [hW2]; exact (Has.new w _ _).alloc _)
  have E2 : Hid (Has W2 (w.heap.size + 1) #[.string ⟨#[]⟩, .slice none 0 0]) := Lib.hid (by rw [hW2]; exact Has.new1 w _ _ _)
  have HS := Lib.hid (fun (w' : World) (k : Below w.heap.size w w') => h.deep k hB)
  have GG := Lib.hid G2
  have HN := Lib.hid hn
  have HU := Lib.hid (fun u (hu : lookS s n = some u) => look_leaf hF hu)
  clear h hs hv G2 hn hF
  generalize lookS s n = o9 at *
  unfold RLkR at CL
  unfold RApR
  obtain ⟨y1, y2, y3, y4, y5⟩ := H2.out.two
  go_enter Tryz.func79, Tryz.ntmps79
  go_upto_region 1 with fail
  rw [← hW2]
  clear hW2
  go_wp2_with fail
  refine (CV.out _).mono ?_
  rintro e w3 ⟨rfl, g3⟩
  have D3 := Lib.hid (next0 GG.out.1 g3.1)
  have H3 := Lib.hid (H2.out.step0 g3.1)
  have E3 := Lib.hid (E2.out.step0 g3.1)
  have hz3 : w.heap.size + 2 ≤ w3.heap.size := Nat.le_trans hz2w g3.1.size
  clear y1 y2 y3 y4 y5 CV g3 H2 E2
  obtain ⟨y1, y2, y3, y4, y5⟩ := H3.out.two
  go_wp2_with fail
  refine (CL.out _ D3.out).mono ?_
  rintro e w4 ⟨u, q, d, f, rfl, hc, hS, hnu, hb⟩
  have D4 := Lib.hid (next0 D3.out hb)
  have H4 := Lib.hid (H3.out.step0 hb)
  have E4 := Lib.hid (E3.out.step0 hb)
  have hz4 : w.heap.size + 2 ≤ w4.heap.size := Nat.le_trans hz3 hb.size
  have S4 := Lib.hid hS
  have N4 := Lib.hid hnu
  have HC := Lib.hid hc
  clear y1 y2 y3 y4 y5 CL hb D3 H3 E3 hS hnu hc
  obtain ⟨z1, z2, z3, z4, z5⟩ := E4.out.two
  obtain ⟨y1, y2, y3, y4, y5⟩ := H4.out.two
  rcases HC.out with ⟨ho, rfl⟩ | ⟨ho, hu, rfl⟩
  · subst ho
    clear HC HS HN
    obtain ⟨r1, r2, _⟩ := (((E4.out.set 0 (.string u.nm)).set 1 (.slice q u.args.length d)).alloc (.cells #[.string u.nm, .slice q u.args.length d] 24)).two
    go_wp2_with fail
    refine bodyPost_ret (v := .agg #[.string u.nm, .slice q u.args.length d]) (by simp [results, Tryz.results79, go_sem, r1, r2]) rfl ?_
    exact ⟨q, d, rfl, slin_any (HU.out u rfl) S4.out, N4.out, below_ret D4.out (by omega) _ _ _⟩
  · subst ho
    have S5 := Lib.hid (HS.out _ D4.out)
    clear HC S4 N4
    obtain ⟨r1, r2, _⟩ := (((E4.out.set 0 (.string n)).set 1 (.slice p 0 c)).alloc (.cells #[.string u.nm, .slice q u.args.length d] 24)).two
    subst hu
    go_wp2_with fail
    refine bodyPost_ret (v := .agg #[.string n, .slice p 0 c]) (by simp [results, Tryz.results79, go_sem, r1, r2]) rfl ?_
    exact ⟨p, c, rfl, slin_any rfl S5.out, HN.out, below_ret D4.out (by omega) _ _ _⟩
set_option maxRecDepth 100000 in
set_option maxHeartbeats 6400000 in
theorem rapply_any0 (s : List Bd) (hF : ∀ b ∈ s, b.2.args = []) (hV : ∀ b ∈ s, varB b.1 = true) (t : Tm) : ∀ (B : Nat) (w : World) (sv tv : Value), B ≤ w.heap.size → SIn (· < B) w s sv → SlIn (· < B) w t.args tv → t.nm.size ≤ maxLen → sizeT t ≤ 1000000 →
    Calls Tryz.prog 79 #[sv, .agg #[.string t.nm, tv]] w (RApR 0 (appT s t) w) := by
  obtain ⟨i0, hi, hz0, hz1, hz2⟩ := info_parts Tryz.info28
  induction t using Tm.ind with
  | h n l ih =>
    intro B w sv tv hB hs h hnm hz
    dsimp only [Tm.args, Tm.nm] at h hnm ⊢
    by_cases hv : isV (.mk n l) = true
    · have hl : l = [] := by cases l with
        | nil => rfl
        | cons a l => simp [isV, Tm.args] at hv
      subst hl
      obtain ⟨p, c, rfl⟩ := h.form
      have := rapply_var0 s hF n B w sv p c hB hs h hnm hv
      simpa [appT] using this
    · have hv0 : isV (.mk n l) = false := by simpa using hv
      rw [app_same hV n l hv0]
      obtain ⟨p, c, rfl, hn, hc, hm, hR⟩ := h.row
      have hls := len_size l
      simp only [sizeT] at hz
      have CV := Lib.hid (fun w' => rvar_t (.mk n l) p c w' hnm)
      rw [hv0] at CV
      dsimp only [Tm.nm, Tm.args] at CV
      obtain ⟨W2, hW2⟩ : ∃ W2, W2 = (w.alloc (.cells #[.string n, .slice p l.length c] 24)).alloc (.cells #[.string ⟨#[]⟩, .slice none 0 0] 24) := ⟨_, rfl⟩
      have G2 : Gr w W2 := by rw [hW2]; exact (Gr.alloc _ _).more _
      have hz2w : w.heap.size + 2 ≤ W2.heap.size := by rw [hW2]; simp
      have H2 : Hid (Has W2 w.heap.size #[.string n, .slice p l.length c]) := Lib.hid (by rw [hW2]; exact (Has.new w _ _).alloc _)
      have E2 : Hid (Has W2 (w.heap.size + 1) #[.string ⟨#[]⟩, .slice none 0 0]) := Lib.hid (by rw [hW2]; exact Has.new1 w _ _ _)
      have IH : Hid (∀ t ∈ l, ∀ (w' : World) (v : Value), Below w.heap.size w w' → SlIn (· < B) w' t.args v → t.nm.size ≤ maxLen → Calls Tryz.prog 79 #[sv, .agg #[.string t.nm, v]] w' (RApR 0 (appT s t) w')) :=
        Lib.hid (fun t hk w' v hb h hn => ih t hk B w' sv v (Nat.le_trans hB hb.size) (hs.deep hb hB) h hn (by have := size_mem hk; omega))
      have TK : Hid (∀ k t, l[k]? = some t → (l.take (k + 1)).map (appT s) = (l.take k).map (appT s) ++ [appT s t]) := Lib.hid (fun k t h => by rw [take_get l k t h]; simp)
      have FT : Hid ((l.take l.length).map (appT s) = l.map (appT s)) := Lib.hid (by simp)
      have HB := Lib.hid hB
      have HR := Lib.hid hR
      have HNM := Lib.hid hnm
      have hlb : l.length ≤ 1000000 := by omega
      have ll : Hid ((l.map (appT s)).length = l.length) := Lib.hid (by simp)
      have GG := Lib.hid G2
      unfold RApR
      dsimp only [Tm.nm, Tm.args]
      rw [ll.out]
      generalize hm' : l.length = m at *
      have HM := Lib.hid hm'
      clear ih hR h hm' hn hls hz ll hs hv hv0 hnm G2 hF
      obtain ⟨y1, y2, y3, y4, y5⟩ := H2.out.two
      go_enter Tryz.func79, Tryz.ntmps79
      go_upto_region 1 with fail
      rw [← hW2]
      clear hW2
      go_wp2_with fail
      refine (CV.out _).mono ?_
      rintro e w3 ⟨rfl, g3⟩
      have D3 := Lib.hid (next0 GG.out.1 g3.1)
      have H3 := Lib.hid (H2.out.step0 g3.1)
      have E3 := Lib.hid (E2.out.step0 g3.1)
      have hz3 : w.heap.size + 2 ≤ w3.heap.size := Nat.le_trans hz2w g3.1.size
      clear y1 y2 y3 y4 y5 CV g3 H2 E2
      obtain ⟨y1, y2, y3, y4, y5⟩ := H3.out.two
      go_wp2_with fail
      clear y1 y2 y3 y4 y5
      have hB3 : B ≤ w3.heap.size := by have := HB.out; omega
      have sz3 : w.heap.size ≤ w3.heap.size := by omega
      go_loopw [8] (fun i wr => ∃ (k : Nat) (L : List (Tm × Value)) (v : Value), k ≤ m ∧ i = .int .i64 k ∧ Hid (L.map (·.1) = (l.take k).map (appT s)) ∧ Hid (OwnB 0 (w3.heap.size + 1) wr L v) ∧ Hid (Has wr w3.heap.size #[.string n, v]) ∧ Hid (Has wr w.heap.size #[.string n, .slice p m c]) ∧ Hid (Has wr (w.heap.size + 1) #[.string ⟨#[]⟩, .slice none 0 0]) ∧ Hid (Below w.heap.size w wr)) (fun i _ => m - (intOf i).toNat)
      case atStart => exact ⟨0, [], _, Nat.zero_le _, rfl, Lib.hid rfl, Lib.hid (OwnB.nil _ _ _), Lib.hid (Has.new _ _ _), Lib.hid (H3.out.alloc _), Lib.hid (E3.out.alloc _), Lib.hid (D3.out.alloc sz3 _)⟩
      case round =>
        obtain ⟨k, L, v, hk, rfl, hL, hO, hC, hH, hE, hD⟩ := hrel
        by_cases hlt : k < m
        · obtain ⟨t, b, o, q, d, ht, rfl, hb, c1, c2, hs, hts⟩ := (Row.deep HR.out hD.out HB.out) k (by rw [HM.out]; exact hlt)
          obtain ⟨x1, x2, x3, x4, hbl⟩ := hC.out.two
          obtain ⟨y1, y2, y3, y4, y5⟩ := hH.out.two
          have hLl : L.length = k := by
            have := congrArg List.length hL.out
            rw [List.length_map, List.length_map, List.length_take, HM.out] at this
            omega
          have hLl2 : L.length ≤ 1000000 := by omega
          have TT := Lib.hid (TK.out k t ht)
          have IT := Lib.hid (fun w' (g : Below wr.heap.size wr w') => IH.out t (List.mem_of_getElem? ht) w' _ (next0 hD.out g) (hs.deep g (Nat.le_trans HB.out hD.out.size)) hts)
          have hv := Lib.hid hO.out.1.lt
          have A1 : L.length + 1 ≤ maxLen := by unfold maxLen; omega
          have A2 : (L.length + 1) * 40 ≤ 140737488355328 := by omega
          have hDs := hD.out.size
          have hbs : w3.heap.size + 1 ≤ wr.heap.size := hbl
          clear hs hts ht hLl
          generalize t.nm = tn at *
          generalize t.args.length = ta at *
          generalize appT s t = u at *
          unfold RApR at IT
          go_wp2_with fail
          go_region_law (first
            | (refine step_append_lies _ rfl _ _ 22 rfl (w3.heap.size + 1) 24 i0 (.agg #[.string ⟨#[]⟩, .slice none 0 0]) 2 40 Tryz.underlying22 hi hz0 hz1 hz2 rfl (by decide) v L.length (flatL L) rfl (O2.out.1.alloc _) ⟨w2.heap.size, 0, none⟩ 1 1 [.string u.nm, .slice q1 u.args.length c1'] rfl rfl (news2 _ _ _ _) (one2 _ _ _ _) (by decide) A1 A2 A3 (w2.heap.size + 1) (by simp) ?_; intro g cap w4 hown hgrow hat hlt3; have O3 := Lib.hid (O2.out.add (by omega) (by omega) S2.out NU.out hbl (fun k hk => (hv.out k hk).2) hown hgrow hat); have nv1 : v.ownBlock ≠ some w3.heap.size := (fun e => absurd (hv.out _ e).1 (by omega)); have nv2 : v.ownBlock ≠ some (w.heap.size + 1) := (fun e => absurd (hv.out _ e).1 (by omega)); have nv3 : v.ownBlock ≠ some w.heap.size := (fun e => absurd (hv.out _ e).1 (by omega)); have C3 := Lib.hid (UniD.Has.grown (C2.out.alloc _) hgrow nv1); have E3 := Lib.hid (UniD.Has.grown (E2.out.alloc _) hgrow nv2); have H3 := Lib.hid (UniD.Has.grown (H2.out.alloc _) hgrow nv3); have D3 := Lib.hid ((D2.out.alloc (by exact D2.out.size) _).grown hgrow (by have := D2.out.size; simp; omega) (fun k hk => by have := (hv.out k hk).1; omega)); clear hown hgrow hat; obtain ⟨u1, u2, u3, u4, u5⟩ := C3.out.two)
            | (go_simp; go_at_call 79; refine (IT.out _ (by first | exact Below.refl _ _ | exact (Below.refl _ _).drew | exact below_drewN (Below.refl _ _) _)).mono ?_; rintro e w2 ⟨q1, c1', rfl, s2, nu, b2⟩; have G2 : Below wr.heap.size wr w2 := (by first | exact b2 | exact next0 (Below.refl _ _).drew b2 | exact next0 (below_drewN (Below.refl _ _) _) b2); have hz22 : wr.heap.size ≤ w2.heap.size := G2.size; have S2 := Lib.hid (s2.weaken (ok' := fun b => b < 0 ∨ (wr.heap.size ≤ b ∧ b < w2.heap.size)) (fun b hb => hb)); have NU := Lib.hid nu; have D2 := Lib.hid (hD.out.trans (G2.mono hD.out.size)); have O2 := Lib.hid (hO.out.below G2); have C2 := Lib.hid (hC.out.step0 G2); have E2 := Lib.hid (hE.out.step0 G2); have H2 := Lib.hid (hH.out.step0 G2); have A3 : w3.heap.size + 1 ≤ (w2.alloc (.cells #[.string u.nm, .slice q1 u.args.length c1'] 24)).heap.size := (by have := C2.out.lt; simp; omega); clear s2 b2 G2 nu; obtain ⟨z1, z2, z3, z4, z5⟩ := C2.out.two))
          all_goals
            go_wp2_with fail
            go_roundw
            case rel => exact ⟨k + 1, L ++ [(u, .slice q1 u.args.length c1')], _, by omega, by go_num, Lib.hid (by rw [List.map_append, hL.out, TT.out]; rfl), Lib.hid (O3.out.far (by simp) (by simp) _), Lib.hid (C3.out.set 1 _), Lib.hid (H3.out.far (by show w.heap.size ≠ w3.heap.size; omega) _), Lib.hid (E3.out.far (by show w.heap.size + 1 ≠ w3.heap.size; omega) _), Lib.hid (D3.out.setCell (by show w.heap.size ≤ w3.heap.size; omega) _)⟩
            case measure => simp [intOf]; omega
        · obtain rfl : k = m := by omega
          obtain ⟨a, c', rfl⟩ := hO.out.form
          have hLl : L.length = k := by
            have := congrArg List.length hL.out
            rw [List.length_map, List.length_map, List.length_take, HM.out] at this
            omega
          have HL : Hid (L.map (·.1) = l.map (appT s)) := Lib.hid (by rw [hL.out, FT.out])
          rw [hLl] at hO hC
          obtain ⟨x1, x2, _, _, x5⟩ := hC.out.two
          obtain ⟨z1, z2, _, _, z5⟩ := hH.out.two
          obtain ⟨y1, y2, y3, y4, y5⟩ := hE.out.two
          have O4 := Lib.hid (((hO.out.far (p := ⟨w.heap.size + 1, 0, none⟩) (by show w.heap.size + 1 < w3.heap.size + 1; omega) (Nat.zero_le _) (.string n)).far (p := ⟨w.heap.size + 1, 1, none⟩) (by show w.heap.size + 1 < w3.heap.size + 1; omega) (Nat.zero_le _) (.slice a k c')))
          have D4 := Lib.hid ((hD.out.setCell (p := ⟨w.heap.size + 1, 0, none⟩) (by simp) (.string n)).setCell (p := ⟨w.heap.size + 1, 1, none⟩) (by simp) (.slice a k c'))
          have r1 := hE.out.put0 (.string n) (.slice a k c')
          have r2 := hE.out.put1 (.string n) (.slice a k c')
          clear hLl
          go_wp2_with fail
          refine bodyPost_ret (v := .agg #[.string n, .slice a k c']) (by simp [results, Tryz.results79, go_sem, r1, r2]) rfl ?_
          refine ⟨a, c', rfl, ?_, HNM.out, D4.out⟩
          rw [← HL.out]
          exact O4.out.slin.weaken (fun b hb => by have := hb; omega)
end UnrI
end Go.Proofs.YtdkpflojdnkbnaaGreatDoor
