/- Texts laid together: LigD; LigB. Their own heads stand before each. -/
import Derived.Test.YtdkpflojdnkbnaaGreatDoorHAM
import Derived.Test.YtdkpflojdnkbnaaGreatDoorHAO
import Derived.Deep.AppendLies
import Derived.BigQuiet
import Derived.WalkSpells
import Derived.Test.YtdkpflojdnkbnaaGreatDoorHAA
/- instance of gameplayerplain: a term in which variables are replaced, of bounded key. Conditions: at most a million pairs; terms with at most 19 arguments and a million parts. -/
namespace Go.Proofs.YtdkpflojdnkbnaaGreatDoor
open Go Go.RowKit
namespace LigD
open Kit LexM TermM TermI TermN TermU UniM UniK UniA UniD UniE UniG LigM LigP LigG
/-- What instance leaves. -/
def InsQ (ok : Nat → Prop) (N K Z : Nat) (t : Tm) (w : World) (e : Ending) (w' : World) : Prop :=
  ∃ (u : Tm) (q : Option Addr) (d : Nat) (f : Bool), e = .returned (.tuple #[.agg #[.string u.nm, .slice q u.args.length d], .bool f]) ∧ SlIn (fun b => ok b ∨ (w.heap.size ≤ b ∧ b < w'.heap.size)) w' u.args (.slice q u.args.length d) ∧ u.nm.size ≤ maxLen ∧
    (f = true → GN N u ∧ klen u ≤ klen t + sizeT t * K ∧ sizeT u ≤ sizeT t * Z) ∧ Below w.heap.size w w'
theorem okl {ok : Nat → Prop} {a b c : Nat} (h : ∀ k, ok k → k < a) (hab : a ≤ b) : ∀ k, (ok k ∨ (c ≤ k ∧ k < b)) → k < b := fun k hk => hk.elim (fun h1 => Nat.lt_of_lt_of_le (h k h1) hab) (·.2)
theorem oka {ok : Nat → Prop} {v : Value} {a base r s : Nat} (h : ∀ k, ok k → k < a) (hv : ∀ k, v.ownBlock = some k → base ≤ k ∧ k < r) (h1 : a < base) (h2 : base ≤ r) (h3 : r ≤ s) : ∀ b, (ok b ∨ (r ≤ b ∧ b < s)) → (ok b ∨ base ≤ b) ∧ b < s ∧ v.ownBlock ≠ some b := fun b hb => by
  rcases hb with hb | hb
  · have := h b hb
    exact ⟨Or.inl hb, by omega, fun e => by have := hv b e; omega⟩
  · exact ⟨Or.inr (by omega), hb.2, fun e => by have := hv b e; omega⟩
theorem sizeT_one (t : Tm) : 1 ≤ sizeT t := by
  obtain ⟨n, l⟩ := t
  simp [sizeT]
/-- Pairs whose terms are good. -/
def GP (N K Z : Nat) (ps : List Bd) : Prop := ∀ x ∈ ps, GN N x.2 ∧ klen x.2 ≤ K ∧ sizeT x.2 ≤ Z
theorem pick_ok {N K Z : Nat} {ps : List Bd} (h : GP N K Z ps) {x : Bd} (hx : x ∈ ps) (t : Tm) : GN N x.2 ∧ klen x.2 ≤ klen t + sizeT t * K ∧ sizeT x.2 ≤ sizeT t * Z := by
  obtain ⟨h1, h2, h3⟩ := h x hx
  have h0 := sizeT_one t
  have a1 : K ≤ sizeT t * K := Nat.le_mul_of_pos_left _ h0
  have a2 : Z ≤ sizeT t * Z := Nat.le_mul_of_pos_left _ h0
  exact ⟨h1, by omega, by omega⟩
/-- The arguments made so far. -/
def Mk (N K Z : Nat) (l L : List Tm) : Prop := L.length = l.length ∧ (∀ x ∈ L, GN N x) ∧ klenL L ≤ klenL l + sizeL l * K ∧ sizeL L ≤ sizeL l * Z
theorem mk_nil (N K Z : Nat) : Mk N K Z [] [] := ⟨rfl, fun _ h => (by cases h), by simp [klenL], by simp [sizeL]⟩
theorem mk_snoc {N K Z : Nat} {l L : List Tm} {t u : Tm} (h : Mk N K Z l L) (hu : GN N u ∧ klen u ≤ klen t + sizeT t * K ∧ sizeT u ≤ sizeT t * Z) : Mk N K Z (l ++ [t]) (L ++ [u]) := by
  obtain ⟨h1, h2, h3, h4⟩ := h
  refine ⟨by simp [h1], fun x hx => ?_, ?_, ?_⟩
  · rcases List.mem_append.1 hx with hx | hx
    · exact h2 x hx
    · obtain rfl := List.mem_singleton.1 hx
      exact hu.1
  · rw [klenL_app, klenL_app, sizeL_app]
    simp only [klenL, sizeL, Nat.add_zero, Nat.add_mul]
    have := hu.2.1
    omega
  · rw [sizeL_app, sizeL_app]
    simp only [sizeL, Nat.add_zero, Nat.add_mul]
    have := hu.2.2
    omega
theorem mk_done {N K Z : Nat} {n : ByteArray} {l L : List Tm} (hZ : 1 ≤ Z) (hn : n.size ≤ N) (hl : l.length ≤ 19) (h : Mk N K Z l L) : GN N (.mk n L) ∧ klen (.mk n L) ≤ klen (.mk n l) + sizeT (.mk n l) * K ∧ sizeT (.mk n L) ≤ sizeT (.mk n l) * Z := by
  obtain ⟨h1, h2, h3, h4⟩ := h
  refine ⟨gn_mk hn (by omega) h2, ?_, ?_⟩
  · simp only [klen, sizeT, Nat.add_mul]
    omega
  · simp only [sizeT, Nat.add_mul]
    omega
set_option maxRecDepth 100000 in
set_option maxHeartbeats 3200000 in
theorem instance_any (N K Z : Nat) (ps : List Bd) (hps : GP N K Z ps) (hZ : 1 ≤ Z) (hpl : ps.length ≤ 1000000) (t : Tm) : ∀ (ok : Nat → Prop) (B : Nat) (w : World) (tv pv : Value), (∀ b, ok b → b < B) → B ≤ w.heap.size → SlIn ok w t.args tv → PIn ok w ps pv → t.nm.size ≤ maxLen → GN N t →
    Calls Tryz.prog 86 #[.agg #[.string t.nm, tv], pv] w (InsQ ok N K Z t w) := by
  obtain ⟨i0, hi, hz0, hz1, hz2⟩ := info_parts Tryz.info28
  induction t using Tm.ind with
  | h n l ih =>
    intro ok B w tv pv hok hB h hP hnm hg
    dsimp only [Tm.args, Tm.nm] at h hnm ⊢
    obtain ⟨p, c, rfl, hn, hc, hm, -⟩ := (h.weaken hok).row
    obtain ⟨pp, cp, rfl, hcp, hmp, -⟩ := PIn.row (hP.wide hok)
    have hgn := hg
    unfold GN at hgn
    have hla : l.length ≤ 19 := hgn.2.1
    have CV := Lib.hid (fun w' => LigA.variable_any (.mk n l) p c w')
    dsimp only [Tm.nm, Tm.args] at CV
    obtain ⟨W2, hW2⟩ : ∃ W2, W2 = (w.alloc (.cells #[.string n, .slice p l.length c] 24)).alloc (.cells #[.string ⟨#[]⟩, .slice none 0 0] 24) := ⟨_, rfl⟩
    have G2 : Gr w W2 := by rw [hW2]; exact (Gr.alloc _ _).more _
    have hz2w : w.heap.size + 2 ≤ W2.heap.size := by rw [hW2]; simp
    have H2 : Hid (Has W2 w.heap.size #[.string n, .slice p l.length c]) := Lib.hid (by rw [hW2]; exact (Has.new w _ _).alloc _)
    have E2 : Hid (Has W2 (w.heap.size + 1) #[.string ⟨#[]⟩, .slice none 0 0]) := Lib.hid (by rw [hW2]; exact Has.new1 w _ _ _)
    have IH : Hid (∀ t ∈ l, ∀ (w' : World) (v : Value), Below w.heap.size w w' → SlIn ok w' t.args v → t.nm.size ≤ maxLen → Calls Tryz.prog 86 #[.agg #[.string t.nm, v], .slice pp ps.length cp] w' (InsQ ok N K Z t w')) :=
      Lib.hid (fun t hk w' v hb h hn => ih t hk ok B w' v _ hok (Nat.le_trans hB hb.size) h (hP.keep fun b o h => hb.cell (p := ⟨b, o, none⟩) (Nat.lt_of_lt_of_le (hok b h) hB)) hn (gn_arg hg hk))
    have PK := Lib.hid (fun (x : Bd) (hx : x ∈ ps) => pick_ok hps hx (.mk n l))
    have MS := Lib.hid (fun k t u L (h : l[k]? = some t) (hM : Mk N K Z (l.take k) L) hu => show Mk N K Z (l.take (k + 1)) (L ++ [u]) from by rw [take_get l k t h]; exact mk_snoc hM hu)
    have MD := Lib.hid (fun L (hM : Mk N K Z (l.take l.length) L) => mk_done (n := n) hZ hgn.1 hla (by rw [List.take_length] at hM; exact hM))
    have TS := Lib.hid (fun w' (k : Below w.heap.size w w') => h.frame (w' := w') fun b o hb => k.cell (p := ⟨b, o, none⟩) (Nat.lt_of_lt_of_le (hok b hb) hB))
    have PS := Lib.hid (fun w' (k : Below w.heap.size w w') => hP.keep (w' := w') fun b o hb => k.cell (p := ⟨b, o, none⟩) (Nat.lt_of_lt_of_le (hok b hb) hB))
    have HW := Lib.hid (fun b (h : ok b) => Nat.lt_of_lt_of_le (hok b h) hB)
    have HB := Lib.hid hB
    have HNM := Lib.hid hnm
    have GG := Lib.hid G2
    generalize hm' : l.length = m at *
    have HM := Lib.hid hm'
    generalize hpn : ps.length = pn at *
    have HPN := Lib.hid hpn
    clear ih h hP hok hm' hn hnm hg hgn hpn hcp hmp hps G2 hc hm
    obtain ⟨y1, y2, y3, y4, y5⟩ := H2.out.two
    obtain ⟨z1, z2, z3, z4, z5⟩ := E2.out.two
    go_enter Tryz.func86, Tryz.ntmps86
    go_upto_region 1 with fail
    rw [← hW2]
    clear hW2
    go_wp2_with fail
    refine (CV.out _).mono ?_
    rintro e w3 ⟨b, rfl, g3⟩
    have D3 := Lib.hid (next0 GG.out.1 g3.1)
    have H3 := Lib.hid (H2.out.step0 g3.1)
    have E3 := Lib.hid (E2.out.step0 g3.1)
    have hz3 : w.heap.size + 2 ≤ w3.heap.size := Nat.le_trans hz2w g3.1.size
    clear y1 y2 y3 y4 y5 z1 z2 z3 z4 z5 CV g3 H2 E2
    cases b
    · clear PK
      obtain ⟨y1, y2, y3, y4, y5⟩ := H3.out.two
      go_wp2_with fail
      clear y1 y2 y3 y4 y5
      have hB3 : B ≤ w3.heap.size := by have := HB.out; omega
      have sz3 : w.heap.size ≤ w3.heap.size := by omega
      go_loopw [39] (fun i wr => ∃ (k : Nat) (L : List (Tm × Value)) (v : Value), k ≤ m ∧ i = .int .i64 k ∧ Hid (Mk N K Z (l.take k) (L.map (·.1))) ∧ Hid (OwnA ok (w3.heap.size + 1) wr L v) ∧ Hid (Has wr w3.heap.size #[.string n, v]) ∧ Hid (Has wr w.heap.size #[.string n, .slice p m c]) ∧ Hid (Has wr (w.heap.size + 1) #[.string ⟨#[]⟩, .slice none 0 0]) ∧ Hid (Below w.heap.size w wr)) (fun i _ => m - (intOf i).toNat)
      case atStart => exact ⟨0, [], _, Nat.zero_le _, rfl, Lib.hid (mk_nil _ _ _), Lib.hid (OwnA.nil _ _ _), Lib.hid (Has.new _ _ _), Lib.hid (H3.out.alloc _), Lib.hid (E3.out.alloc _), Lib.hid (D3.out.alloc sz3 _)⟩
      case round =>
        obtain ⟨k, L, v, hk, rfl, hL, hO, hC, hH, hE, hD⟩ := hrel
        by_cases hlt : k < m
        · obtain ⟨t, b, o, q, d, ht, rfl, hb, c1, c2, hs, hts⟩ := slin_at (TS.out wr hD.out) k (by rw [HM.out]; exact hlt)
          obtain ⟨y1, y2, y3, y4, y5⟩ := hH.out.two
          have hLl : L.length ≤ k := by
            have := hL.out.1
            rw [List.length_map, List.length_take, HM.out] at this
            omega
          have IT := Lib.hid (IH.out t (List.mem_of_getElem? ht) wr _ hD.out hs hts)
          have MS1 := Lib.hid (fun u hu => MS.out k t u _ ht hL.out hu)
          have hv := Lib.hid hO.out.1.lt
          have A1 : L.length + 1 ≤ maxLen := by unfold maxLen; omega
          have A2 : (L.length + 1) * 40 ≤ 140737488355328 := by omega
          have hbs : w3.heap.size + 1 ≤ wr.heap.size := hC.out.lt
          have hDs := hD.out.size
          clear hs hts ht hL
          generalize t.nm = tn at *
          generalize t.args.length = ta at *
          unfold InsQ at IT
          go_wp2_with fail
          refine IT.out.mono ?_
          rintro e w5 ⟨u, q1, d1, f, rfl, s5, n5, hu, k5⟩
          have J5 := Lib.hid k5
          have hz5 : wr.heap.size ≤ w5.heap.size := k5.size
          have S5 := Lib.hid s5
          have N5 := Lib.hid n5
          have HU := Lib.hid hu
          clear s5 n5 hu k5 IT y1 y2 y3 y4 y5 c1 c2
          obtain ⟨W6, hW6⟩ : ∃ W6, W6 = w5.alloc (.cells #[.string u.nm, .slice q1 u.args.length d1] 24) := ⟨_, rfl⟩
          have J6 : Hid (Below w5.heap.size w5 W6) := Lib.hid (by rw [hW6]; exact below_alloc _ _)
          have X6 : Hid (Has W6 w5.heap.size #[.string u.nm, .slice q1 u.args.length d1]) := Lib.hid (by rw [hW6]; exact Has.new _ _ _)
          have hz6 : W6.heap.size = w5.heap.size + 1 := by rw [hW6]; simp
          have J56 := Lib.hid (next0 J5.out J6.out)
          have hw5 : w.heap.size ≤ w5.heap.size := Nat.le_trans hDs hz5
          have D6 := Lib.hid (hD.out.trans (J56.out.mono hDs))
          have O6 := Lib.hid (hO.out.below J56.out)
          have C6 := Lib.hid (hC.out.step0 J56.out)
          have E6 := Lib.hid (hE.out.step0 J56.out)
          have H6 := Lib.hid (hH.out.step0 J56.out)
          have S6 := Lib.hid ((S5.out.frame (w' := W6) fun b o hb => J6.out.cell (p := ⟨b, o, none⟩) (okl HW.out hw5 b hb)).weaken (ok' := fun b => ok b ∨ (wr.heap.size ≤ b ∧ b < W6.heap.size)) fun b hb => hb.imp id fun h => ⟨h.1, by omega⟩)
          clear hO hC hE hH S5 J5 J6 J56 hw5
          obtain ⟨x1, x2, x3, x4, x5⟩ := X6.out.two
          obtain ⟨z1, z2, z3, z4, z5⟩ := C6.out.two
          obtain ⟨y1, y2, y3, y4, y5⟩ := H6.out.two
          generalize hun : u.nm = un at *
          have HUN := Lib.hid hun
          generalize hul : u.args.length = ul at *
          have HUL := Lib.hid hul
          clear hun hul
          go_upto_region 14 with fail
          rw [← hW6]
          clear hW6
          cases f
          · have r1 := E6.out.put0 (.string n) (.slice (some ⟨b, o, none⟩) m c)
            have r2 := E6.out.put1 (.string n) (.slice (some ⟨b, o, none⟩) m c)
            have S7 := Lib.hid ((TS.out W6 D6.out).frame (w' := (W6.setCell ⟨w.heap.size + 1, 0, none⟩ (.string n)).setCell ⟨w.heap.size + 1, 1, none⟩ (.slice (some ⟨b, o, none⟩) m c)) (fun b o hb => by
              have := HW.out b hb
              rw [cell_far (by show b ≠ w.heap.size + 1; omega), cell_far (by show b ≠ w.heap.size + 1; omega)]))
            have D7 := Lib.hid ((D6.out.setCell (p := ⟨w.heap.size + 1, 0, none⟩) (by simp) (.string n)).setCell (p := ⟨w.heap.size + 1, 1, none⟩) (by simp) (.slice (some ⟨b, o, none⟩) m c))
            obtain ⟨e1, e2, e3, e4, e5⟩ := E6.out.two
            go_wp2_with fail
            refine bodyPost_ret (v := .tuple #[.agg #[.string n, .slice (some ⟨b, o, none⟩) m c], .bool false]) (by simp [results, Tryz.results86, go_sem, r1, r2]) rfl ?_
            refine ⟨.mk n l, some ⟨b, o, none⟩, c, false, by rw [← HM.out]; rfl, ?_, HNM.out, (fun h => by cases h), D7.out⟩
            show SlIn _ _ l (.slice _ l.length c)
            rw [HM.out]
            exact S7.out.weaken fun b hb => Or.inl hb
          · have hzb : w3.heap.size + 1 ≤ (W6.alloc (.cells #[.string un, .slice q1 ul d1] 24)).heap.size := by simp; omega
            have HZ6 := Lib.hid hz6
            clear hz6
            obtain ⟨va, vc, rfl⟩ := O6.out.form
            have nv1 : (Value.slice va L.length vc).ownBlock ≠ some w3.heap.size := fun e => absurd (hv.out _ e).1 (by omega)
            have nv2 : (Value.slice va L.length vc).ownBlock ≠ some (w.heap.size + 1) := fun e => absurd (hv.out _ e).1 (by omega)
            have nv3 : (Value.slice va L.length vc).ownBlock ≠ some w.heap.size := fun e => absurd (hv.out _ e).1 (by omega)
            go_wp2_with (at_builtin; go_must (refine wpList_append_lies _ rfl _ _ 22 rfl (w3.heap.size + 1) 24 i0 (.agg #[.string ⟨#[]⟩, .slice none 0 0]) 2 40 Tryz.underlying22 hi hz0 hz1 hz2 rfl (by decide) (.slice va L.length vc) L.length (flatL L) rfl (O6.out.1.alloc _) ⟨W6.heap.size, 0, none⟩ 1 1 [.string un, .slice q1 ul d1] rfl rfl (news2 _ _ _ _) (one2 _ _ _ _) (by decide) A1 A2 hzb (W6.heap.size + 1) (by simp) ?_; intro g cap w7 hown hgrow hat hlt7; have hz6 := HZ6.out; have O7 := Lib.hid (OwnA.add (t := u) (v1 := .slice q1 ul d1) O6.out S6.out (by rw [HUN.out]; exact N5.out) (oka HW.out hv.out (by omega) (by omega) (by omega)) (by rw [HUN.out]; exact hown) hgrow hat); have C7 := Lib.hid (UniD.Has.grown (C6.out.alloc _) hgrow nv1); have E7 := Lib.hid (UniD.Has.grown (E6.out.alloc _) hgrow nv2); have H7 := Lib.hid (UniD.Has.grown (H6.out.alloc _) hgrow nv3); have D7 := Lib.hid ((D6.out.alloc (by omega) _).grown hgrow (by simp; omega) (fun k hk => by have := (hv.out k hk).1; omega)); clear hown hgrow; obtain ⟨t1, t2, t3, t4, t5⟩ := C7.out.two))
            go_roundw
            case rel => exact ⟨k + 1, L ++ [(u, .slice q1 ul d1)], _, by omega, by go_num, Lib.hid (by rw [List.map_append]; exact MS1.out u (HU.out rfl)), Lib.hid (O7.out.far (by simp) (fun h => absurd (HW.out _ h) (by show ¬ (w3.heap.size < w.heap.size); omega)) _), Lib.hid (C7.out.set 1 _), Lib.hid (H7.out.far (by show w.heap.size ≠ w3.heap.size; omega) _), Lib.hid (E7.out.far (by show w.heap.size + 1 ≠ w3.heap.size; omega) _), Lib.hid (D7.out.setCell (by show w.heap.size ≤ w3.heap.size; omega) _)⟩
            case measure => simp [intOf]; omega
        · obtain rfl : k = m := by omega
          obtain ⟨a, c', rfl⟩ := hO.out.form
          have hLl : L.length = k := by
            have := hL.out.1
            rw [List.length_map, List.length_take, HM.out] at this
            omega
          have HF := Lib.hid (MD.out (L.map (·.1)) hL.out)
          rw [hLl] at hO hC
          obtain ⟨x1, x2, _, _, x5⟩ := hC.out.two
          have O4 := Lib.hid (((hO.out.far (p := ⟨w.heap.size + 1, 0, none⟩) (by show w.heap.size + 1 < w3.heap.size + 1; omega) (fun h => absurd (HW.out _ h) (by show ¬ (w.heap.size + 1 < w.heap.size); omega)) (.string n)).far (p := ⟨w.heap.size + 1, 1, none⟩) (by show w.heap.size + 1 < w3.heap.size + 1; omega) (fun h => absurd (HW.out _ h) (by show ¬ (w.heap.size + 1 < w.heap.size); omega)) (.slice a k c')))
          have D4 := Lib.hid ((hD.out.setCell (p := ⟨w.heap.size + 1, 0, none⟩) (by simp) (.string n)).setCell (p := ⟨w.heap.size + 1, 1, none⟩) (by simp) (.slice a k c'))
          have r1 := hE.out.put0 (.string n) (.slice a k c')
          have r2 := hE.out.put1 (.string n) (.slice a k c')
          have HLk := Lib.hid hLl
          obtain ⟨z1, z2, z3, z4, z5⟩ := hE.out.two
          clear hLl IH MS MD TS
          go_wp2_with fail
          refine bodyPost_ret (v := .tuple #[.agg #[.string n, .slice a k c'], .bool true]) (by simp [results, Tryz.results86, go_sem, r1, r2]) rfl ?_
          refine ⟨.mk n (L.map (·.1)), a, c', true, ?_, ?_, HNM.out, fun _ => HF.out, D4.out⟩
          · show Ending.returned _ = Ending.returned (.tuple #[.agg #[.string n, .slice a (L.map (·.1)).length c'], .bool true])
            rw [List.length_map, HLk.out]
          · show SlIn _ _ (L.map (·.1)) (.slice a (L.map (·.1)).length c')
            rw [List.length_map, HLk.out]
            exact O4.out.slin.weaken (fun b hb => hb.imp id fun h => ⟨by have := h.1; omega, h.2⟩)
    · clear IH MS MD
      go_wp2_with fail
      go_loopw [15] (fun i wr => ∃ (k : Nat), k ≤ pn ∧ i = .int .i64 k ∧ Hid (Below w3.heap.size w3 wr)) (fun i _ => pn - (intOf i).toNat)
      case atStart => exact ⟨0, Nat.zero_le _, rfl, Lib.hid (Below.refl _ _)⟩
      case round =>
        obtain ⟨k, hk, rfl, hD⟩ := hrel
        obtain ⟨y1, y2, y3, y4, y5⟩ := (H3.out.step0 hD.out).two
        obtain ⟨z1, z2, z3, z4, z5⟩ := (E3.out.step0 hD.out).two
        have D5 := Lib.hid (next0 D3.out hD.out)
        by_cases hlt : k < pn
        · obtain ⟨x, g, o, q, d, hx, rfl, hgB, e1, e2, e3, hxs, hxn, hxv⟩ := pin_at (PS.out wr D5.out) k (by rw [HPN.out]; exact hlt)
          have HX := Lib.hid (And.intro (PK.out x (List.mem_of_getElem? hx)) (And.intro hxs hxn))
          obtain ⟨z, hz⟩ : ∃ z, (x.1.toList == n.toList) = z := ⟨_, rfl⟩
          clear hx hxs hxn hxv
          generalize x.1 = xv at *
          generalize x.2 = u at *
          cases z
          · go_wp2_with fail
            go_quiet (fail)
            all_goals
              go_wp2_with fail
              go_roundw
              case rel => exact ⟨k + 1, by omega, by go_num, Lib.hid (by first | exact below_drewN hD.out _ | exact hD.out)⟩
              case measure => simp [intOf]; omega
          · go_wp2_with fail
            go_quiet (fail)
            all_goals
              have E5 := Lib.hid (E3.out.step0 (below_drewN hD.out nq))
              have r1 := E5.out.put0 (.string u.nm) (.slice q u.args.length d)
              have r2 := E5.out.put1 (.string u.nm) (.slice q u.args.length d)
              have S5 := Lib.hid (HX.out.2.1.frame (w' := ((wr.drewN nq).setCell ⟨w.heap.size + 1, 0, none⟩ (.string u.nm)).setCell ⟨w.heap.size + 1, 1, none⟩ (.slice q u.args.length d)) (fun b o hb => by
                have := HW.out b hb
                rw [cell_far (by show b ≠ w.heap.size + 1; omega), cell_far (by show b ≠ w.heap.size + 1; omega)]
                rfl))
              have D6 := Lib.hid (((below_drewN D5.out nq).setCell (p := ⟨w.heap.size + 1, 0, none⟩) (by simp) (.string u.nm)).setCell (p := ⟨w.heap.size + 1, 1, none⟩) (by simp) (.slice q u.args.length d))
              have HX1 := Lib.hid HX.out.1
              have HX2 := Lib.hid HX.out.2.2
              clear HX
              go_wp2_with fail
              refine bodyPost_ret (v := .tuple #[.agg #[.string u.nm, .slice q u.args.length d], .bool true]) (by simp [results, Tryz.results86, go_sem, r1, r2]) rfl ?_
              exact ⟨u, q, d, true, rfl, S5.out.weaken fun b hb => Or.inl hb, HX2.out, fun _ => HX1.out, D6.out⟩
        · obtain rfl : k = pn := by omega
          have E5 := Lib.hid (E3.out.step0 hD.out)
          have r1 := E5.out.put0 (.string n) (.slice p m c)
          have r2 := E5.out.put1 (.string n) (.slice p m c)
          have S5 := Lib.hid ((TS.out wr D5.out).frame (w' := (wr.setCell ⟨w.heap.size + 1, 0, none⟩ (.string n)).setCell ⟨w.heap.size + 1, 1, none⟩ (.slice p m c)) (fun b o hb => by
            have := HW.out b hb
            rw [cell_far (by show b ≠ w.heap.size + 1; omega), cell_far (by show b ≠ w.heap.size + 1; omega)]))
          have D6 := Lib.hid ((D5.out.setCell (p := ⟨w.heap.size + 1, 0, none⟩) (by simp) (.string n)).setCell (p := ⟨w.heap.size + 1, 1, none⟩) (by simp) (.slice p m c))
          clear PK
          go_wp2_with fail
          refine bodyPost_ret (v := .tuple #[.agg #[.string n, .slice p m c], .bool false]) (by simp [results, Tryz.results86, go_sem, r1, r2]) rfl ?_
          refine ⟨.mk n l, p, c, false, by rw [← HM.out]; rfl, ?_, HNM.out, (fun h => by cases h), D6.out⟩
          show SlIn _ _ l (.slice _ l.length c)
          rw [HM.out]
          exact S5.out.weaken fun b hb => Or.inl hb
end LigD
end Go.Proofs.YtdkpflojdnkbnaaGreatDoor
/- levels of gameplayerplain: the depth of a term. Condition: at most 10^12 parts. Made by genlig.py. -/
namespace Go.Proofs.YtdkpflojdnkbnaaGreatDoor
open Go Go.RowKit
namespace LigB
open LexM TermM TermI Kit TermN
set_option maxRecDepth 100000 in
set_option maxHeartbeats 1600000 in
theorem levels_any (t : Tm) : ∀ (B : Nat) (w : World) (sv : Value), B ≤ w.heap.size → SlIn (· < B) w t.args sv → sizeT t ≤ 1000000000000 →
    Calls Tryz.prog 84 #[.agg #[.string t.nm, sv]] w fun e w' => e = .returned (.int .i64 (depthT t)) ∧ Gr w w' := by
  induction t using Tm.ind with
  | h n l ih =>
    intro B w sv hB h hz
    dsimp only [Tm.args, Tm.nm] at h ⊢
    obtain ⟨p, c, rfl, hn, hc, hm, hR⟩ := h.row
    have hls := len_size l
    have hdl := Nat.le_trans (depthT_le (.mk n l)) hz
    simp only [sizeT] at hz
    simp only [depthT] at hdl
    simp only [depthT]
    have IH : Hid (∀ t ∈ l, ∀ (w : World) (v : Value), B ≤ w.heap.size → SlIn (· < B) w t.args v → sizeT t ≤ 1000000000000 → Calls Tryz.prog 84 #[.agg #[.string t.nm, v]] w fun e w' => e = .returned (.int .i64 (depthT t)) ∧ Gr w w') :=
      Lib.hid (fun t hk w v hB h hz => ih t hk B w v hB h hz)
    have NX : Hid (∀ k t, l[k]? = some t → depthL (l.take (k + 1)) = max (depthL (l.take k)) (depthT t) ∧ sizeT t ≤ 1000000000000 ∧ depthT t ≤ 1000000000000) := Lib.hid (fun k t h => by
      have := size_get h
      have := depthT_le t
      exact ⟨by exact depth_next _ _ _ h, by omega, by omega⟩)
    have GT : Hid (∀ k, depthL (l.take k) ≤ 1000000000000) := Lib.hid (fun k => by have := depthL_take l k; omega)
    have FL : Hid (depthL (l.take l.length) = depthL l) := Lib.hid (by simp)
    have HB := Lib.hid hB
    have HR := Lib.hid hR
    generalize hm' : l.length = m at *
    have HM := Lib.hid hm'
    clear ih hR h hm' hn hdl
    go_enter Tryz.func84, Tryz.ntmps84
    go_wp2_with fail
    go_loopw [3, 8] (fun d i wr => ∃ k : Nat, k ≤ m ∧ i = .int .i64 k ∧ d = .int .i64 (depthL (l.take k)) ∧ Hid (Gr (w.alloc (.cells #[.string n, .slice p m c] 24)) wr)) (fun _ i _ => m - (intOf i).toNat)
    case atStart => exact ⟨0, Nat.zero_le _, rfl, rfl, Lib.hid (Gr.refl _)⟩
    case round =>
      obtain ⟨k, hk, rfl, rfl, hg⟩ := hrel
      have hd := GT.out k
      by_cases hlt : k < m
      · obtain ⟨t, b, o, q, d, ht, rfl, hb, c1, c2, hs, hts⟩ := (HR.out.gr ((Gr.alloc _ _).trans hg.out) HB.out) k (by rw [HM.out]; exact hlt)
        obtain ⟨b0, b1, _, _, hbl⟩ := (hg.out.has (Has.new w _ _)).two
        obtain ⟨n1, n2, n3⟩ := NX.out k t ht
        have HD := Lib.hid n1
        have HT := Lib.hid ht
        have HS := Lib.hid hs
        have IT := Lib.hid (IH.out t (List.mem_of_getElem? ht))
        clear n1 ht hs
        go_wp2_with fail
        refine (IT.out _ _ (Nat.le_trans HB.out ((Gr.alloc _ _).trans (hg.out.trans (Gr.refl _))).size) (HS.out.gr (Gr.refl _) (Nat.le_trans HB.out ((Gr.alloc _ _).trans hg.out).size)) (by omega)).mono ?_
        rintro e w' ⟨rfl, g2⟩
        have hg2 := Lib.hid ((hg.out.trans (Gr.refl _)).trans g2)
        clear g2
        go_wp2_with fail
        go_roundw
        case rel => exact ⟨k + 1, by omega, by go_num, by rw [HD.out]; first | rfl | (congr 1; omega), hg2⟩
        case measure => simp [intOf]; omega
      · obtain rfl : k = m := by omega
        have HF := Lib.hid FL.out
        go_wp2_with fail
        go_ret
        exact ⟨ret_int (by rw [HF.out]; omega), (Gr.alloc _ _).trans hg.out⟩
end LigB
end Go.Proofs.YtdkpflojdnkbnaaGreatDoor
