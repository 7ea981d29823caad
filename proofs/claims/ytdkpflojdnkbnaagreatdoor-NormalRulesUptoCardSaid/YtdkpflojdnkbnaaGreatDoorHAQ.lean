/- Texts laid together: LigE; LigU; UnrA. Their own heads stand before each. -/
import Derived.Test.YtdkpflojdnkbnaaGreatDoorHAN
import Derived.Test.YtdkpflojdnkbnaaGreatDoorHAP
import Derived.Test.YtdkpflojdnkbnaaGreatDoorHAJ
import Derived.Deep.RegionWith
import Derived.Test.YtdkpflojdnkbnaaGreatDoorHAO
/- bound of gameplayerplain: pairs extended so that a pattern becomes a term. Conditions: pairs and pattern together at most a million; good terms. -/
namespace Go.Proofs.YtdkpflojdnkbnaaGreatDoor
open Go Go.RowKit
namespace LigE
open Kit LexM TermM TermI TermN TermU UniM UniK UniA UniD UniE UniG UniR LigM LigP LigG LigD LigQ
/-- What bound leaves: pairs in blocks of the kind that was given, or in new ones. -/
def BQ (ok : Nat → Prop) (N K Z m : Nat) (w : World) (e : Ending) (w' : World) : Prop :=
  ∃ (qs : List Bd) (v : Value) (f : Bool), e = .returned (.tuple #[v, .bool f]) ∧ PIn (fun b => ok b ∨ (w.heap.size ≤ b ∧ b < w'.heap.size)) w' qs v ∧ GP N K Z qs ∧ qs.length ≤ m ∧ Below w.heap.size w w'
/-- The kinds of blocks of a round lie in its world. -/
theorem okw {ok : Nat → Prop} {B lo hi : Nat} (h : ∀ b, ok b → b < B) (hB : B ≤ hi) : ∀ b, (ok b ∨ (lo ≤ b ∧ b < hi)) → b < hi := fun b hb => hb.elim (fun h1 => Nat.lt_of_lt_of_le (h b h1) hB) (·.2)
theorem bq_mono {ok : Nat → Prop} {N K Z m lo hi : Nat} {w' w6 : World} {e : Ending} (h1 : lo ≤ w'.heap.size) (h2 : hi ≤ w'.heap.size) (h : BQ (fun b => ok b ∨ (lo ≤ b ∧ b < hi)) N K Z m w' e w6) :
    ∃ (qs : List Bd) (v : Value) (f : Bool), e = .returned (.tuple #[v, .bool f]) ∧ PIn (fun b => ok b ∨ (lo ≤ b ∧ b < w6.heap.size)) w6 qs v ∧ GP N K Z qs ∧ qs.length ≤ m ∧ Below w'.heap.size w' w6 := by
  obtain ⟨qs, v, f, he, a1, a2, a3, a4⟩ := h
  have s2 := a4.size
  refine ⟨qs, v, f, he, a1.wide fun b hb => ?_, a2, a3, a4⟩
  rcases hb with (hb | hb) | hb
  · exact Or.inl hb
  · exact Or.inr ⟨hb.1, by omega⟩
  · exact Or.inr ⟨by omega, hb.2⟩
theorem ci_e {ok : Nat → Prop} {N K Z B m lo : Nat} {wr : World} {x y : Tm} {s' : List Bd} {v v1 v2 : Value}
    (hI : ∀ (ok' : Nat → Prop) (w' : World), (∀ b, ok' b → b < w'.heap.size) → PIn ok' w' s' v → SlIn (· < w'.heap.size) w' x.args v1 → SlIn ok' w' y.args v2 → Calls Tryz.prog 119 #[.agg #[.string x.nm, v1], .agg #[.string y.nm, v2], v] w' (BQ ok' N K Z m w'))
    (hok : ∀ b, ok b → b < B) (hB5 : B ≤ wr.heap.size) (hlo : lo ≤ wr.heap.size) (hs : PIn (fun b => ok b ∨ (lo ≤ b ∧ b < wr.heap.size)) wr s' v) (hx : SlIn (· < B) wr x.args v1) (hy : SlIn ok wr y.args v2) (w' : World) (g : Below wr.heap.size wr w') :
    Calls Tryz.prog 119 #[.agg #[.string x.nm, v1], .agg #[.string y.nm, v2], v] w' (fun e w6 => ∃ (qs : List Bd) (v : Value) (f : Bool), e = .returned (.tuple #[v, .bool f]) ∧ PIn (fun b => ok b ∨ (lo ≤ b ∧ b < w6.heap.size)) w6 qs v ∧ GP N K Z qs ∧ qs.length ≤ m ∧ Below w'.heap.size w' w6) := by
  have hsz := g.size
  have h0 := okw (lo := lo) hok hB5
  refine (hI (fun b => ok b ∨ (lo ≤ b ∧ b < wr.heap.size)) w' (fun b hb => Nat.lt_of_lt_of_le (h0 b hb) hsz) (hs.keep fun b o hb => g.cell (p := ⟨b, o, none⟩) (h0 b hb)) ((hx.deep g hB5).weaken fun b hb => Nat.lt_of_lt_of_le hb (Nat.le_trans hB5 hsz)) ((hy.frame (w' := w') fun b o hb => g.cell (p := ⟨b, o, none⟩) (h0 b (Or.inl hb))).weaken fun b hb => Or.inl hb)).mono ?_
  intro e w6 h
  exact bq_mono (Nat.le_trans hlo hsz) hsz h
/-- A good term. -/
def GT (N K Z : Nat) (t : Tm) : Prop := GN N t ∧ klen t ≤ K ∧ sizeT t ≤ Z
theorem gt_arg {N K Z : Nat} {n : ByteArray} {l : List Tm} (h : GT N K Z (.mk n l)) {x : Tm} (hx : x ∈ l) : GT N K Z x := by
  obtain ⟨h1, h2, h3⟩ := h
  have a := klenL_mem hx
  have b := size_mem hx
  simp only [klen] at h2
  simp only [sizeT] at h3
  exact ⟨gn_arg h1 hx, by omega, by omega⟩
theorem gp_snoc {N K Z : Nat} {s : List Bd} {n : ByteArray} {t : Tm} (h : GP N K Z s) (ht : GT N K Z t) : GP N K Z (s ++ [(n, t)]) := by
  intro x hx
  rcases List.mem_append.1 hx with hx | hx
  · exact h x hx
  · obtain rfl := List.mem_singleton.1 hx
    exact ht
set_option maxRecDepth 100000 in
set_option maxHeartbeats 12800000 in
theorem bound_any (N K Z : Nat) (p : Tm) : ∀ (t : Tm) (s : List Bd), GP N K Z s → GT N K Z t → s.length + sizeT p ≤ 1000000 → ∀ (ok : Nat → Prop) (B : Nat) (w : World) (sv pv tv : Value), (∀ b, ok b → b < B) → B ≤ w.heap.size → PIn ok w s sv → SlIn (· < B) w p.args pv → SlIn ok w t.args tv → p.nm.size ≤ maxLen → t.nm.size ≤ maxLen →
    Calls Tryz.prog 119 #[.agg #[.string p.nm, pv], .agg #[.string t.nm, tv], sv] w (BQ ok N K Z (s.length + sizeT p) w) := by
  induction p using Tm.ind with
  | h n l ih =>
    rintro ⟨n2, r⟩ s hG hT hl ok B w sv pv tv hok hB hs0 hp ht0 hpn htn
    dsimp only [Tm.args, Tm.nm] at hp hpn ht0 htn ⊢
    have hs : PIn (· < B) w s sv := hs0.wide hok
    have ht : SlIn (· < B) w r tv := ht0.weaken hok
    obtain ⟨p1, c1, rfl, _, hlc, hcm, hPR⟩ := hp.row
    obtain ⟨p2, c2, rfl, _, _, _, hTR⟩ := ht.row
    obtain ⟨ps, cs, rfl, _, _, hSR⟩ := PIn.row hs
    have h63 : l.length ≤ 9223372036854775807 := by unfold maxLen at hcm; omega
    clear hlc hcm
    obtain ⟨W2, hW2⟩ : ∃ W2, W2 = (w.alloc (.cells #[.string n, .slice p1 l.length c1] 24)).alloc (.cells #[.string n2, .slice p2 r.length c2] 24) := ⟨_, rfl⟩
    have G2 : Gr w W2 := by rw [hW2]; exact (Gr.alloc _ _).more _
    have H2 : Hid (Has W2 w.heap.size #[.string n, .slice p1 l.length c1]) := Lib.hid (by rw [hW2]; exact (Has.new w _ _).alloc _)
    have T2 : Hid (Has W2 (w.heap.size + 1) #[.string n2, .slice p2 r.length c2]) := Lib.hid (by rw [hW2]; exact Has.new1 w _ _ _)
    have CV := Lib.hid (fun w' => LigA.variable_any (.mk n l) p1 c1 w')
    dsimp only [Tm.nm, Tm.args] at CV
    have IH : Hid (∀ x ∈ l, ∀ (y : Tm) (s' : List Bd), GP N K Z s' → GT N K Z y → s'.length + sizeT x ≤ 1000000 → ∀ (ok' : Nat → Prop) (w' : World) (sv' v1 v2 : Value), (∀ b, ok' b → b < w'.heap.size) → PIn ok' w' s' sv' → SlIn (· < w'.heap.size) w' x.args v1 → SlIn ok' w' y.args v2 → x.nm.size ≤ maxLen → y.nm.size ≤ maxLen → Calls Tryz.prog 119 #[.agg #[.string x.nm, v1], .agg #[.string y.nm, v2], sv'] w' (BQ ok' N K Z (s'.length + sizeT x) w')) :=
      Lib.hid (fun x hx y s' h1 h2 h0 ok' w' sv' v1 v2 hk h3 h4 h5 h6 h7 => ih x hx y s' h1 h2 h0 ok' w'.heap.size w' sv' v1 v2 hk (Nat.le_refl _) h3 h4 h5 h6 h7)
    have CE : Hid (∀ (u : Tm) (q : Value) (w' : World), Below w.heap.size w w' → SlIn (· < B) w' u.args q → Calls Tryz.prog 45 #[.agg #[.string u.nm, q], .agg #[.string n2, .slice p2 r.length c2]] w' (fun e w'' => e = .returned (.bool (cmpT u (.mk n2 r) == 0)) ∧ Gr w' w'')) :=
      Lib.hid (fun u q w' k hu => TermEq.term_any u (cmpT u (.mk n2 r) == 0) B w' q (.mk n2 r) (.slice p2 r.length c2) (by rw [beq_iff_eq, cmp_zero]) (Nat.le_trans hB k.size) hu (ht.deep k hB))
    have GA := Lib.hid (fun y (hy : y ∈ r) => gt_arg hT hy)
    have GG := Lib.hid G2
    have HB := Lib.hid hB
    have HPR := Lib.hid hPR
    have HSR := Lib.hid hSR
    have KK : Hid (∀ (w' : World) (k : Below w.heap.size w w') (b o : Nat), ok b → w'.cell? ⟨b, o, none⟩ = w.cell? ⟨b, o, none⟩) := Lib.hid (fun w' k b o h => k.cell (p := ⟨b, o, none⟩) (Nat.lt_of_lt_of_le (hok b h) hB))
    have SB := Lib.hid (fun w' (k : Below w.heap.size w w') => hs0.keep (KK.out w' k))
    have TB := Lib.hid (fun w' (k : Below w.heap.size w w') => ht0.frame (KK.out w' k))
    have SS := Lib.hid (fun w' (k : Below w.heap.size w w') => (hs0.keep (KK.out w' k)).wide (ok' := fun b => ok b ∨ (w.heap.size ≤ b ∧ b < w'.heap.size)) fun b hb => Or.inl hb)
    have HOK := Lib.hid hok
    have hM : s.length + (sizeL (l.drop 0) + 1) ≤ s.length + sizeT (.mk n l) := by simp [sizeT]
    obtain ⟨M, hMM⟩ : ∃ M, s.length + sizeT (.mk n l) = M := ⟨_, rfl⟩
    rw [hMM] at hl hM ⊢
    have hS1 : s.length + 1 ≤ M := by omega
    have HGS := Lib.hid hG
    have HGT := Lib.hid hT
    have HTN := Lib.hid htn
    have HPNM := Lib.hid hpn
    have SD := Lib.hid (fun k x (h : l[k]? = some x) => show sizeL (l.drop k) = sizeT x + sizeL (l.drop (k + 1)) from by
      obtain ⟨hk, rfl⟩ := List.getElem?_eq_some_iff.1 h
      rw [List.drop_eq_getElem_cons hk, sizeL])
    have HSL := Lib.hid hM
    clear hs hp ht hs0 ht0 hok KK hpn htn hPR hTR hSR hG hT hM ih hB G2 hMM
    obtain ⟨y1, y2, y3, y4, y5⟩ := H2.out.two
    generalize hla : l.length = a at *
    generalize hlr : r.length = b at *
    generalize hls : s.length = sn at *
    have HLA := Lib.hid hla
    have HLR := Lib.hid hlr
    have HLS := Lib.hid hls
    clear hla hlr hls
    go_enter Tryz.func119, Tryz.ntmps119
    go_upto_region 1 with fail
    rw [← hW2]
    clear hW2
    go_wp2_with fail
    refine (CV.out _).mono ?_
    rintro e w3 ⟨vb, rfl, g3⟩
    have D3 := Lib.hid (next0 GG.out.1 g3.1)
    have H3 := Lib.hid (H2.out.step0 g3.1)
    have T3 := Lib.hid (T2.out.step0 g3.1)
    clear y1 y2 y3 y4 y5 g3 H2 T2 CV
    obtain ⟨y1, y2, y3, y4, y5⟩ := H3.out.two
    obtain ⟨z1, z2, z3, z4, z5⟩ := T3.out.two
    cases vb
    · clear CE SB
      obtain ⟨zn, hzn⟩ : ∃ z, (n.toList == n2.toList) = z := ⟨_, rfl⟩
      have hzn2 : (n.toList != n2.toList) = !zn := by rw [bne, hzn]
      cases zn
      · clear IH
        go_wp2_with fail
        refine bodyPost_ret (v := .tuple #[.slice none 0 0, .bool false]) (by simp [results, Tryz.results119, go_sem]) rfl ?_
        exact ⟨[], _, false, rfl, PIn.nil _ _, (fun x hx => by cases hx), Nat.zero_le _, D3.out⟩
      · by_cases hab : a = b
        · subst hab
          go_wp2_with fail
          clear y1 y2 y3 y4 y5 z1 z2 z3 z4 z5
          go_loopw [2, 9, 10] (fun v kv i wr => ∃ (k : Nat) (go : Bool) (s' : List Bd), k ≤ a ∧ kv = .bool go ∧ i = .int .i64 k ∧ Hid (GP N K Z s' ∧ s'.length + (sizeL (l.drop k) + 1) ≤ M ∧ PIn (fun b => ok b ∨ (w.heap.size ≤ b ∧ b < wr.heap.size)) wr s' v) ∧ Hid (Below w3.heap.size w3 wr)) (fun _ _ i _ => a - (intOf i).toNat)
          case atStart => exact ⟨0, true, s, Nat.zero_le _, rfl, rfl, Lib.hid ⟨HGS.out, by rw [HLS.out]; exact HSL.out, SS.out _ D3.out⟩, Lib.hid (Below.refl _ _)⟩
          case round =>
            obtain ⟨k, go, s', hk, rfl, rfl, HQ, hD⟩ := hrel
            obtain ⟨y1, y2, y3, y4, y5⟩ := (H3.out.step0 hD.out).two
            obtain ⟨z1, z2, z3, z4, z5⟩ := (T3.out.step0 hD.out).two
            have D5 := Lib.hid (next0 D3.out hD.out)
            have QL : Hid (s'.length ≤ M) := Lib.hid (by have := HQ.out.2.1; omega)
            cases go
            · clear IH
              by_cases hlt : k < a
              all_goals
                go_wp2_with fail
                refine bodyPost_ret (by simp [results, Tryz.results119, go_sem]; rfl) rfl ?_
                exact ⟨s', _, false, rfl, HQ.out.2.2, HQ.out.1, QL.out, D5.out⟩
            · by_cases hlt : k < a
              · obtain ⟨x, b, o, q, d, hx, rfl, hb, e1, e2, hxs, hxn⟩ := (Row.deep HPR.out D5.out HB.out) k (by rw [HLA.out]; exact hlt)
                obtain ⟨y, b2, o2, q2, d2, hy, rfl, hb2, u1, u2, hys, hyn⟩ := slin_at (TB.out wr D5.out) k (by rw [HLR.out]; exact hlt)
                have SX := Lib.hid (SD.out k x hx)
                have hsx : s'.length + (sizeT x + sizeL (l.drop (k + 1)) + 1) ≤ M := by have := HQ.out.2.1; rw [SX.out] at this; exact this
                have hz6 : s'.length + sizeT x ≤ 1000000 := by omega
                have hB5 : B ≤ wr.heap.size := Nat.le_trans HB.out D5.out.size
                have CI :=
                  Lib.hid (ci_e (fun ok' w' h1 h2 h3 h4 => IH.out x (List.mem_of_getElem? hx) y s' HQ.out.1 (GA.out y (List.mem_of_getElem? hy)) hz6 ok' w' _ _ _ h1 h2 h3 h4 hxn hyn) HOK.out hB5 D5.out.size HQ.out.2.2 hxs hys)
                have NX := Lib.hid (fun (n : Nat) (h : n ≤ s'.length + sizeT x) => show n + (sizeL (l.drop (k + 1)) + 1) ≤ M from by omega)
                clear hx hy hxs hxn hys hyn hsx SX IH SS SD HSL HQ TB hz6 hB5
                generalize s'.length + sizeT x = m9 at *
                generalize x.nm = xn at *
                generalize x.args.length = xa at *
                generalize y.nm = yn at *
                generalize y.args.length = ya at *
                go_wp2_with fail
                go_region_with (first
                  | (go_at_call 119; (with_reducible refine (CI.out _ (by first | exact Below.refl _ _ | exact (Below.refl _ _).drew | exact below_drewN (Below.refl _ _) _)).mono ?_); rintro e w6 ⟨s9, v6, f, rfl, h1, h2, h3, hb6⟩; have D6 : Hid (Below wr.heap.size wr w6) := Lib.hid (by first | exact hb6 | exact next0 (Below.refl _ _).drew hb6 | exact next0 (below_drewN (Below.refl _ _) _) hb6); have HH := Lib.hid (And.intro h1 (And.intro h2 h3)); clear h1 h2 h3 hb6))
                all_goals
                  go_wp2_with fail
                  go_roundw
                  case rel => exact ⟨k + 1, f, s9, by omega, rfl, by go_num, Lib.hid ⟨HH.out.2.1, NX.out _ HH.out.2.2, HH.out.1⟩, Lib.hid (next0 hD.out D6.out)⟩
                  case measure => simp [intOf]; omega
              · obtain rfl : k = a := by omega
                clear IH
                go_wp2_with fail
                refine bodyPost_ret (by simp [results, Tryz.results119, go_sem]; rfl) rfl ?_
                exact ⟨s', _, true, rfl, HQ.out.2.2, HQ.out.1, QL.out, D5.out⟩
        · have hai : ((a : Int) == (b : Int)) = false := by rw [beq_eq_false_iff_ne]; omega
          have haj : ((a : Int) != (b : Int)) = true := by rw [bne, hai]; rfl
          clear IH hab
          go_wp2_with fail
          refine bodyPost_ret (v := .tuple #[.slice none 0 0, .bool false]) (by simp [results, Tryz.results119, go_sem]) rfl ?_
          exact ⟨[], _, false, rfl, PIn.nil _ _, (fun x hx => by cases hx), Nat.zero_le _, D3.out⟩
    · clear IH
      go_wp2_with fail
      go_loopw [15] (fun i wr => ∃ (k : Nat), k ≤ sn ∧ i = .int .i64 k ∧ Hid (Below w3.heap.size w3 wr)) (fun i _ => sn - (intOf i).toNat)
      case atStart => exact ⟨0, Nat.zero_le _, rfl, Lib.hid (Below.refl _ _)⟩
      case round =>
        clear y1 y2 y3 y4 y5 z1 z2 z3 z4 z5
        obtain ⟨k, hk, rfl, hD⟩ := hrel
        obtain ⟨y1, y2, y3, y4, y5⟩ := (H3.out.step0 hD.out).two
        obtain ⟨z1, z2, z3, z4, z5⟩ := (T3.out.step0 hD.out).two
        have D5 := Lib.hid (next0 D3.out hD.out)
        by_cases hlt : k < sn
        · obtain ⟨x, g, o, q, d, hx, rfl, hgB, e1, e2, e3, hxs, hxn, hxv⟩ := (RowP.deep HSR.out D5.out HB.out) k (by rw [HLS.out]; exact hlt)
          obtain ⟨z, hz⟩ : ∃ z, (x.1.toList == n.toList) = z := ⟨_, rfl⟩
          have CE5 := Lib.hid (fun w' (k : Below wr.heap.size wr w') => CE.out x.2 (.slice q x.2.args.length d) w' (next0 D5.out k) (hxs.deep k (Nat.le_trans HB.out D5.out.size)))
          clear hx hxs hxn hxv CE
          generalize (cmpT x.2 (.mk n2 r) == 0) = zb at *
          generalize x.1 = xv at *
          generalize x.2.nm = un at *
          generalize x.2.args.length = ul at *
          cases z
          · clear CE5
            go_wp2_with fail
            go_quiet (fail)
            all_goals
              go_wp2_with fail
              go_roundw
              case rel => exact ⟨k + 1, by omega, by go_num, Lib.hid (by first | exact below_drewN hD.out _ | exact hD.out)⟩
              case measure => simp [intOf]; omega
          · go_wp2_with fail
            go_quiet (fail)
            all_goals
              go_wp2_with fail
              go_region_with (first
                | (go_at_call 45; ((with_reducible refine (CE5.out _ (by first | exact Below.refl _ _ | exact (Below.refl _ _).drew | exact below_drewN (Below.refl _ _) _ | exact (below_drewN (Below.refl _ _) _).drew | exact below_drewN (below_drewN (Below.refl _ _) _) _)).mono ?_); rintro e w6 ⟨rfl, g6⟩; have D6 : Hid (Below wr.heap.size wr w6) := Lib.hid (by first | exact g6.1 | exact next0 (Below.refl _ _).drew g6.1 | exact next0 (below_drewN (Below.refl _ _) _) g6.1 | exact next0 (below_drewN (Below.refl _ _) _).drew g6.1 | exact next0 (below_drewN (below_drewN (Below.refl _ _) _) _) g6.1); clear g6)))
              all_goals
                go_wp2_with fail
                refine bodyPost_ret (by simp [results, Tryz.results119, go_sem]; rfl) rfl ?_
                exact ⟨s, _, zb, rfl, SS.out _ (next0 D5.out D6.out), HGS.out, by rw [HLS.out]; omega, next0 D5.out D6.out⟩
        · obtain rfl : k = sn := by omega
          clear CE
          obtain ⟨i0, hi, hz0, hz1, hz2⟩ := info_parts Tryz.infoP
          obtain ⟨L, pp, cc, hv, hLm, hLl, hLi, hLc⟩ := pin_cells (SB.out wr D5.out)
          have hwb : ∀ b, ok b → b < wr.heap.size := fun b hb => Nat.lt_of_lt_of_le (HOK.out b hb) (Nat.le_trans HB.out D5.out.size)
          rw [HLS.out] at hv hLl hLc
          obtain ⟨rfl, -, rfl⟩ : ps = pp ∧ k = k ∧ cs = cc := by simpa using hv
          have NEWS : Hid (∀ w', Below wr.heap.size wr w' → 0 < k → ∃ ad, ps = some ad ∧ ∀ j u, (KP.flat L)[j]? = some u → w'.cell? (ad.add j) = some u) := Lib.hid (fun w' g h0 => by
            obtain ⟨b, o, e1, e2, e3⟩ := hLc h0
            refine ⟨_, e1, fun j u hu => ?_⟩
            rw [addr_add]
            exact (g.cell (p := ⟨b, o + j, none⟩) (hwb b e2)).trans (e3 j u hu))
          have FL : (KP.flat L).length = k * 3 := by rw [flat_len, hLl]
          have ONE := LigQ.flat_one' hLi
          have A1 : k ≤ maxLen := by unfold maxLen; omega
          have A2 : k * 56 ≤ 140737488355328 := by omega
          have A3 : k + 1 ≤ maxLen := by unfold maxLen; omega
          have A4 : (k + 1) * 56 ≤ 140737488355328 := by omega
          have OWN0 : ∀ W : World, wr.heap.size ≤ W.heap.size → (W.alloc (.cells #[] 138)).ownsRow wr.heap.size 138 3 (.slice (some ⟨W.heap.size, 0, none⟩) 0 0) 0 [] := fun W hW => ⟨rfl, Or.inr ⟨_, 0, #[], rfl, hW, heap_alloc_new W _, Nat.le_refl _, Nat.zero_le _, rfl, rfl⟩⟩
          have OWa : ((wr.alloc (.cells #[] 138)).drew).ownsRow wr.heap.size 138 3 (.slice (some ⟨wr.heap.size, 0, none⟩) 0 0) 0 [] := OWN0 wr (Nat.le_refl _)
          have OWb : (((wr.alloc (.cells #[] 138)).alloc (.cells #[.string n, .string n2, .slice p2 b c2] 138)).drew).ownsRow wr.heap.size 138 3 (.slice (some ⟨wr.heap.size, 0, none⟩) 0 0) 0 [] := (OWN0 wr (Nat.le_refl _)).alloc (.cells #[.string n, .string n2, .slice p2 b c2] 138)
          have OWc : (((wr.alloc (.cells #[.string n, .string n2, .slice p2 b c2] 138)).alloc (.cells #[] 138)).drew).ownsRow wr.heap.size 138 3 (.slice (some ⟨wr.heap.size + 1, 0, none⟩) 0 0) 0 [] := by
            have := OWN0 (wr.alloc (.cells #[.string n, .string n2, .slice p2 b c2] 138)) (by simp)
            rw [World.size_alloc] at this
            exact this
          have BLa : Below wr.heap.size wr ((wr.alloc (.cells #[] 138)).drew) := (below_alloc _ _).drew
          have BLb : Below wr.heap.size wr (((wr.alloc (.cells #[] 138)).alloc (.cells #[.string n, .string n2, .slice p2 b c2] 138)).drew) := (next0 (below_alloc _ _) (below_alloc _ _)).drew
          have BLc : Below wr.heap.size wr (((wr.alloc (.cells #[.string n, .string n2, .slice p2 b c2] 138)).alloc (.cells #[] 138)).drew) := (next0 (below_alloc _ _) (below_alloc _ _)).drew
          have XB : Has (((wr.alloc (.cells #[] 138)).alloc (.cells #[.string n, .string n2, .slice p2 b c2] 138)).drew) (wr.heap.size + 1) #[.string n, .string n2, .slice p2 b c2] := Has.new1 wr _ _ _
          have XC : Has (((wr.alloc (.cells #[.string n, .string n2, .slice p2 b c2] 138)).alloc (.cells #[] 138)).drew) wr.heap.size #[.string n, .string n2, .slice p2 b c2] := (Has.new wr _ _).alloc _
          have OWa := Lib.hid OWa
          have OWb := Lib.hid OWb
          have OWc := Lib.hid OWc
          have BLa := Lib.hid BLa
          have BLb := Lib.hid BLb
          have BLc := Lib.hid BLc
          have XB := Lib.hid XB
          have XC := Lib.hid XC
          clear OWN0
          have H5 := Lib.hid (H3.out.step0 hD.out)
          have T5 := Lib.hid (T3.out.step0 hD.out)
          have FIN : Hid (∀ (w10 : World) (g10 c10 : Nat), Below wr.heap.size wr w10 → w10.ownsRow wr.heap.size 138 3 (.slice (some ⟨g10, 0, none⟩) (k + 1) c10) (k + 1) (KP.flat L ++ [.string n, .string n2, .slice p2 b c2]) → PIn (fun b => ok b ∨ (w.heap.size ≤ b ∧ b < w10.heap.size)) w10 (s ++ [(n, .mk n2 r)]) (.slice (some ⟨g10, 0, none⟩) (k + 1) c10)) := Lib.hid (fun w10 g10 c10 kb ho => by
            have := own_pin (ok := fun b => ok b ∨ (w.heap.size ≤ b ∧ b < w10.heap.size)) (base := wr.heap.size) (w := w10) (L := L ++ [((n, .mk n2 r), .slice p2 b c2)]) (v := .slice (some ⟨g10, 0, none⟩) (k + 1) c10) (by rw [List.length_append, hLl, flat_app, flat_one]; exact ho) (fun x hx => by
              rcases List.mem_append.1 hx with hx | hx
              · exact KP.wide (KP.keep (hLi x hx) fun g o hlt => kb.cell (p := ⟨g, o, none⟩) (hwb g hlt)) fun g hlt => Or.inl hlt
              · obtain rfl := List.mem_singleton.1 hx
                exact ⟨(TB.out w10 (next0 D5.out kb)).weaken fun g hlt => Or.inl hlt, HTN.out, HPNM.out⟩) (fun b h1 h2 => Or.inr ⟨Nat.le_trans D5.out.size h1, h2⟩)
            rw [List.map_append, hLm] at this
            exact this)
          clear hLc hv hLi SB TB HSR HPR SS HOK hwb
          go_wp2_with fail
          go_region_law (first
            | (refine step_append_onto rfl _ _ 120 rfl wr.heap.size 138 i0 _ 3 56 Tryz.underlying120 hi hz0 hz1 hz2 rfl (by decide) wr.heap.size rfl OWa.out ps k cs (KP.flat L) rfl FL (NEWS.out _ BLa.out) ONE A1 A2 BLa.out.size ?_; (intro g9 c9 w9 hown hgrow hlt9; have K9 : Hid (Below wr.heap.size wr w9) := Lib.hid (BLa.out.grown hgrow BLa.out.size (fun k hk => by cases hk; omega)); have OWN9 := Lib.hid hown; have G9 : wr.heap.size ≤ g9 := (hown.lt g9 rfl).1; clear hown hgrow; obtain ⟨y1, y2, y3, y4, y5⟩ := (H5.out.step0 K9.out).two; obtain ⟨z1, z2, z3, z4, z5⟩ := (T5.out.step0 K9.out).two))
            | (refine step_append_onto rfl _ _ 120 rfl wr.heap.size 138 i0 _ 3 56 Tryz.underlying120 hi hz0 hz1 hz2 rfl (by decide) wr.heap.size rfl OWb.out ps k cs (KP.flat L) rfl FL (NEWS.out _ BLb.out) ONE A1 A2 BLb.out.size ?_; (intro g9 c9 w9 hown hgrow hlt9; have K9 : Hid (Below wr.heap.size wr w9) := Lib.hid (BLb.out.grown hgrow BLb.out.size (fun k hk => by cases hk; omega)); have OWN9 := Lib.hid hown; have G9 : wr.heap.size ≤ g9 := (hown.lt g9 rfl).1; have X9 := Lib.hid (UniD.Has.grown XB.out hgrow (fun e => by have := Option.some.inj e; omega)); clear hown hgrow; obtain ⟨y1, y2, y3, y4, y5⟩ := (H5.out.step0 K9.out).two; obtain ⟨z1, z2, z3, z4, z5⟩ := (T5.out.step0 K9.out).two))
            | (refine step_append_onto rfl _ _ 120 rfl wr.heap.size 138 i0 _ 3 56 Tryz.underlying120 hi hz0 hz1 hz2 rfl (by decide) (wr.heap.size + 1) rfl OWc.out ps k cs (KP.flat L) rfl FL (NEWS.out _ BLc.out) ONE A1 A2 BLc.out.size ?_; (intro g9 c9 w9 hown hgrow hlt9; have K9 : Hid (Below wr.heap.size wr w9) := Lib.hid (BLc.out.grown hgrow BLc.out.size (fun k hk => by cases hk; omega)); have OWN9 := Lib.hid hown; have G9 : wr.heap.size ≤ g9 := (hown.lt g9 rfl).1; have X9 := Lib.hid (UniD.Has.grown XC.out hgrow (fun e => by have := Option.some.inj e; omega)); clear hown hgrow; obtain ⟨y1, y2, y3, y4, y5⟩ := (H5.out.step0 K9.out).two; obtain ⟨z1, z2, z3, z4, z5⟩ := (T5.out.step0 K9.out).two))
            | (refine step_append_lies _ rfl _ _ 120 rfl wr.heap.size 138 i0 _ 3 56 Tryz.underlying120 hi hz0 hz1 hz2 rfl (by decide) (.slice (some ⟨g9, 0, none⟩) k c9) k (KP.flat L) rfl (OWN9.out) _ 1 1 [.string n, .string n2, .slice p2 b c2] rfl rfl ((World.news_of_block X9.out.choose_spec)) (UniR.one_B _ _ _ _ _) (by decide) A3 A4 (K9.out.size) _ rfl ?_; (intro g10 c10 w10 hown hgrow hat hlt10; have K10 : Hid (Below wr.heap.size wr w10) := Lib.hid (Below.grown (K9.out) hgrow (K9.out.size) (fun k hk => by cases hk; exact G9)); have F10 := Lib.hid (FIN.out w10 g10 c10 K10.out hown); clear hown hgrow hat))
            | (refine step_append_lies _ rfl _ _ 120 rfl wr.heap.size 138 i0 _ 3 56 Tryz.underlying120 hi hz0 hz1 hz2 rfl (by decide) (.slice (some ⟨g9, 0, none⟩) k c9) k (KP.flat L) rfl ((OWN9.out.alloc (.cells #[.string n, .string n2, .slice p2 b c2] 138))) _ 1 1 [.string n, .string n2, .slice p2 b c2] rfl rfl ((newsK w9 _ _ _ _)) (UniR.one_B _ _ _ _ _) (by decide) A3 A4 ((K9.out.alloc K9.out.size (.cells #[.string n, .string n2, .slice p2 b c2] 138)).size) _ rfl ?_; (intro g10 c10 w10 hown hgrow hat hlt10; have K10 : Hid (Below wr.heap.size wr w10) := Lib.hid (Below.grown ((K9.out.alloc K9.out.size (.cells #[.string n, .string n2, .slice p2 b c2] 138))) hgrow ((K9.out.alloc K9.out.size (.cells #[.string n, .string n2, .slice p2 b c2] 138)).size) (fun k hk => by cases hk; exact G9)); have F10 := Lib.hid (FIN.out w10 g10 c10 K10.out hown); clear hown hgrow hat)))
          all_goals
            go_wp2_with fail
            refine bodyPost_ret (by simp [results, Tryz.results119, go_sem]; rfl) rfl ?_
            exact ⟨s ++ [(n, .mk n2 r)], _, true, rfl, F10.out, gp_snoc HGS.out HGT.out, by rw [List.length_append, HLS.out]; exact hS1, next0 D5.out K10.out⟩
end LigE
end Go.Proofs.YtdkpflojdnkbnaaGreatDoor
/- ways of gameplayerplain: the ways under which literals are among atoms. Conditions: at most eight literals of at most twenty parts, at most a thousand good atoms, a counter of at most a million. -/
namespace Go.Proofs.YtdkpflojdnkbnaaGreatDoor
open Go Go.RowKit
namespace LigU
open Kit LexM TermM TermI TermN TermU UniM UniK UniA UniD UniE UniG UniR LigM LigP LigD LigQ LigE LigW LigV
/-- What ways leaves: ways in blocks of the kind that was given, or in new ones. -/
def WQ (ok : Nat → Prop) (N K Z wk : Nat) (w : World) (e : Ending) (w' : World) : Prop :=
  ∃ (v : Value) (f : Bool), e = .returned (.tuple #[v, .bool f]) ∧
    (f = true → ∃ (qs : List (List Bd)) (lf : Int), WIn (fun b => ok b ∨ (w.heap.size ≤ b ∧ b < w'.heap.size)) w' qs v ∧ qs.length ≤ 5001 ∧ (∀ s ∈ qs, GP N K Z s ∧ s.length ≤ 160) ∧ 0 ≤ lf ∧ lf ≤ 1000000 ∧ Has w' wk #[.int .i64 lf]) ∧ Ch wk w w'
/-- A row of terms anywhere but in the counter's block, whose lists lie in blocks of a kind. -/
def AtR (ok : Nat → Prop) (wk : Nat) (w : World) (l : List Tm) (v : Value) : Prop := ∃ p c, v = .slice p l.length c ∧ ∀ k, k < l.length → ∃ t g o q d, l[k]? = some t ∧ p = some ⟨g, o, none⟩ ∧ (g < w.heap.size ∧ g ≠ wk) ∧ w.cell? ⟨g, o + k * 2, none⟩ = some (.string t.nm) ∧
    w.cell? ⟨g, o + k * 2 + 1, none⟩ = some (.slice q t.args.length d) ∧ SlIn ok w t.args (.slice q t.args.length d) ∧ t.nm.size ≤ maxLen
theorem AtR.row {ok : Nat → Prop} {wk : Nat} {w : World} {l : List Tm} {p : Option Addr} {n c : Nat} (h : AtR ok wk w l (.slice p n c)) : ∀ k, k < l.length → ∃ t g o q d, l[k]? = some t ∧ p = some ⟨g, o, none⟩ ∧ (g < w.heap.size ∧ g ≠ wk) ∧ w.cell? ⟨g, o + k * 2, none⟩ = some (.string t.nm) ∧
    w.cell? ⟨g, o + k * 2 + 1, none⟩ = some (.slice q t.args.length d) ∧ SlIn ok w t.args (.slice q t.args.length d) ∧ t.nm.size ≤ maxLen := by
  obtain ⟨p', c', e, h⟩ := h
  cases e
  exact h
theorem AtR.ch {ok : Nat → Prop} {wk : Nat} {a b : World} {l : List Tm} {v : Value} (h : AtR ok wk a l v) (g : Ch wk a b) (hok : ∀ k, ok k → k < a.heap.size ∧ k ≠ wk) : AtR ok wk b l v := by
  obtain ⟨p, c, e, h⟩ := h
  refine ⟨p, c, e, fun k hk => ?_⟩
  obtain ⟨t, b1, o, q, d, h1, h2, h3, h4, h5, h6, h7⟩ := h k hk
  exact ⟨t, b1, o, q, d, h1, h2, ⟨Nat.lt_of_lt_of_le h3.1 g.size, h3.2⟩, (g.cell h3.1 h3.2).trans h4, (g.cell h3.1 h3.2).trans h5, h6.frame fun b o hb => g.cell (hok b hb).1 (hok b hb).2, h7⟩
/-- The literals of a list, three cells each. -/
theorem lin_row {ok : Nat → Prop} {w : World} {l : List Lt} {p : Option Addr} {n c : Nat} (h : LIn ok w l (.slice p n c)) (k : Nat) (hk : k < l.length) : ∃ x g o q d, l[k]? = some x ∧ p = some ⟨g, o, none⟩ ∧ ok g ∧ w.cell? ⟨g, o + k * 3, none⟩ = some (.bool x.1) ∧ w.cell? ⟨g, o + k * 3 + 1, none⟩ = some (.string x.2.nm) ∧
    w.cell? ⟨g, o + k * 3 + 1 + 1, none⟩ = some (.slice q x.2.args.length d) ∧ SlIn ok w x.2.args (.slice q x.2.args.length d) ∧ x.2.nm.size ≤ maxLen := by
  obtain ⟨L, rfl, p', c', e, h1, h2, h3, h4⟩ := h
  cases e
  have hk' : k < L.length := by simpa using hk
  obtain ⟨g, o, e1, e2, e3⟩ := h4 (by omega)
  obtain ⟨x, hx⟩ : ∃ x, L[k]? = some x := ⟨L[k], by simp [hk']⟩
  obtain ⟨s1, s2⟩ := h3 x (List.mem_of_getElem? hx)
  obtain ⟨q, d, eq⟩ := s1.form
  refine ⟨x.1, g, o, q, d, by simp [hx], e1, e2, e3 k x hx 0 _ rfl, e3 k x hx 1 _ rfl, ?_, by rw [← eq]; exact s1, s2⟩
  rw [← eq]
  exact e3 k x hx 2 _ rfl
theorem slin_row {ok : Nat → Prop} {w : World} {l : List Tm} {p : Option Addr} {n c : Nat} (h : SlIn ok w l (.slice p n c)) (k : Nat) (hk : k < l.length) : ∃ t g o q d, l[k]? = some t ∧ p = some ⟨g, o, none⟩ ∧ ok g ∧ w.cell? ⟨g, o + k * 2, none⟩ = some (.string t.nm) ∧
    w.cell? ⟨g, o + k * 2 + 1, none⟩ = some (.slice q t.args.length d) ∧ SlIn ok w t.args (.slice q t.args.length d) ∧ t.nm.size ≤ maxLen := by
  cases h with
  | mk p c l V b o hp hn hc hm h1 h2 =>
    obtain ⟨t, ht⟩ : ∃ t, l[k]? = some t := ⟨l[k], by simp [hk]⟩
    obtain ⟨a1, a2, a3⟩ := h1 k t ht
    have a4 := h2 k t ht
    obtain ⟨q, d, eq⟩ := a4.form
    have hb := hp (ne_of_get ht)
    exact ⟨t, b, o, q, d, ht, hb.1, hb.2, a1, by rw [← eq]; exact a2, by rw [← eq]; exact a4, a3⟩
theorem win_row {ok : Nat → Prop} {w : World} {l : List (List Bd)} {p : Option Addr} {n c : Nat} (h : WIn ok w l (.slice p n c)) (k : Nat) (hk : k < l.length) : ∃ s g o q d, l[k]? = some s ∧ p = some ⟨g, o, none⟩ ∧ ok g ∧ w.cell? ⟨g, o + k, none⟩ = some (.slice q s.length d) ∧ PIn ok w s (.slice q s.length d) := by
  obtain ⟨L, rfl, p', c', e, h1, h2, h3, h4⟩ := h
  cases e
  have hk' : k < L.length := by simpa using hk
  obtain ⟨g, o, e1, e2, e3⟩ := h4 (by omega)
  obtain ⟨x, hx⟩ : ∃ x, L[k]? = some x := ⟨L[k], by simp [hk']⟩
  have hp := h3 x (List.mem_of_getElem? hx)
  obtain ⟨q, d, eq⟩ := hp.form
  exact ⟨x.1, g, o, q, d, by simp [hx], e1, e2, by rw [← eq]; exact e3 k x hx, by rw [← eq]; exact hp⟩
/-- The first row of ways: one way without pairs. -/
theorem win_one (ok : Nat → Prop) (w : World) : WIn (fun b => ok b ∨ (w.heap.size ≤ b ∧ b < (w.alloc (.cells #[.slice none 0 0] 120)).heap.size)) (w.alloc (.cells #[.slice none 0 0] 120)) [[]] (.slice (some ⟨w.heap.size, 0, none⟩) 1 1) := by
  refine ⟨[([], .slice none 0 0)], rfl, _, 1, rfl, Nat.le_refl _, by unfold maxLen; omega, fun x hx => ?_, fun _ => ⟨w.heap.size, 0, rfl, Or.inr ⟨Nat.le_refl _, by simp⟩, fun i x hx => ?_⟩⟩
  · obtain rfl := List.mem_singleton.1 hx
    exact PIn.nil _ _
  · match i, hx with
    | 0, hx =>
      simp at hx
      subst hx
      exact (Has.new w 120 #[.slice none 0 0]).cell 0
    | i + 1, hx => simp at hx
end LigU
end Go.Proofs.YtdkpflojdnkbnaaGreatDoor
/- The atoms of a rule. No conditions. -/
namespace Go.Proofs.YtdkpflojdnkbnaaGreatDoor
open Go Go.RowKit
namespace UnrA
open LexM TermM TermI Kit TermN TermU TermL TermE TermF UniK UniM UniD UniE LigG LigU
/-- The atoms of a rule. -/
def atsL (h : Tm) (l : List Lt) : List Tm := h :: l.map (·.2)
theorem ats_next {h : Tm} {l : List Lt} {k : Nat} {x : Lt} (hx : l[k]? = some x) : atsL h (l.take (k + 1)) = atsL h (l.take k) ++ [x.2] := by
  unfold atsL
  rw [take_get l k x hx, List.map_append]
  rfl
end UnrA
end Go.Proofs.YtdkpflojdnkbnaaGreatDoor
