/- Texts laid together: LigX. Their own heads stand before each. -/
import Derived.Test.YtdkpflojdnkbnaaGreatDoorHAQ
import Derived.WalkSpells
/- ways of gameplayerplain: the walk. Conditions as in LigU. -/
namespace Go.Proofs.YtdkpflojdnkbnaaGreatDoor
open Go Go.RowKit
namespace LigX
open Kit LexM TermM TermI TermN TermU UniM UniK UniA UniD UniE UniG UniR LigM LigP LigG LigD LigQ LigE LigW LigV LigU
theorem news1 (w : World) (a : Value) (t : TypeId) : ∀ j u, [a][j]? = some u → (w.alloc (.cells #[a] t)).cell? ((⟨w.heap.size, 0, none⟩ : Addr).add j) = some u := World.news_of_block (heap_alloc_new w _)
theorem one_s (p : Option Addr) (n c : Nat) : ∀ u ∈ [Value.slice p n c], u.oneCell' = true := fun u hu => by
  obtain rfl := List.mem_singleton.1 hu
  rfl
theorem ch_drewN {r : Nat} {a b : World} (h : Ch r a b) (n : Nat) : Ch r a (b.drewN n) := h.below (below_drewN (Below.refl _ _) n)
theorem slin_fix {r : Nat} {a b : World} {l : List Tm} {v : Value} (h : SlIn (fun k => k < a.heap.size ∧ k ≠ r) a l v) (g : Ch r a b) : SlIn (fun k => k < a.heap.size ∧ k ≠ r) b l v := h.frame fun _ _ hk => g.cell hk.1 hk.2
theorem kap {ok : Nat → Prop} {wk s a : Nat} (hok : ∀ b, ok b → b < s ∧ b ≠ wk) (hwk : wk < s) (hs : s ≤ a) : ∀ b, (ok b ∨ (s ≤ b ∧ b < a)) → b < a ∧ b ≠ wk := fun b hb => by
  rcases hb with hb | hb
  · have := hok b hb
    exact ⟨by omega, this.2⟩
  · exact ⟨hb.2, by omega⟩
theorem win_step {ok : Nat → Prop} {wk s : Nat} {a b : World} {l : List (List Bd)} {v : Value} (hok : ∀ b, ok b → b < s ∧ b ≠ wk) (hwk : wk < s) (hs : s ≤ a.heap.size) (h : WIn (fun k => ok k ∨ (s ≤ k ∧ k < a.heap.size)) a l v) (g : Ch wk a b) : WIn (fun k => ok k ∨ (s ≤ k ∧ k < b.heap.size)) b l v :=
  (h.keep fun b _ hk => g.cell (kap hok hwk hs b hk).1 (kap hok hwk hs b hk).2).wide fun _ hk => hk.imp id fun h => ⟨h.1, Nat.lt_of_lt_of_le h.2 g.size⟩
/-- bound, called where the counter has turned and ways were made: its pairs lie in old blocks or in new ones. -/
theorem ci {κ : Nat → Prop} {N K Z wk : Nat} {W2 W5 w' : World} {x y : Tm} {s : List Bd} {pv tv sv : Value} (hκ : ∀ b, κ b → b < W2.heap.size ∧ b ≠ wk) (D : Ch wk W2 W5) (kb : Below W5.heap.size W5 w') (hG : GP N K Z s) (hY : GT N K Z y) (hl : s.length + sizeT x ≤ 1000000) (hs : PIn κ W2 s sv)
    (hx : SlIn (fun k => k < W2.heap.size ∧ k ≠ wk) W2 x.args pv) (hy : SlIn κ W2 y.args tv) (hxn : x.nm.size ≤ maxLen) (hyn : y.nm.size ≤ maxLen) :
    Calls Tryz.prog 119 #[.agg #[.string x.nm, pv], .agg #[.string y.nm, tv], sv] w' (fun e w6 => ∃ (qs : List Bd) (v : Value) (f : Bool), e = .returned (.tuple #[v, .bool f]) ∧ PIn (fun b => κ b ∨ (W5.heap.size ≤ b ∧ b < w6.heap.size)) w6 qs v ∧ GP N K Z qs ∧ qs.length ≤ s.length + sizeT x ∧ Below w'.heap.size w' w6) := by
  have C := Ch.below D kb
  have k1 := C.size
  have k2 := kb.size
  refine (bound_any N K Z x y s hG hY hl κ w'.heap.size w' sv pv tv (fun b hb => Nat.lt_of_lt_of_le (hκ b hb).1 k1) (Nat.le_refl _) (hs.keep fun b o hb => C.cell (hκ b hb).1 (hκ b hb).2) ((slin_fix hx C).weaken fun b hb => Nat.lt_of_lt_of_le hb.1 k1) (hy.frame fun b o hb => C.cell (hκ b hb).1 (hκ b hb).2) hxn hyn).mono ?_
  rintro e w6 ⟨qs, v, f, he, h1, h2, h3, h4⟩
  exact ⟨qs, v, f, he, h1.wide fun b hb => hb.imp id fun h => ⟨Nat.le_trans k2 h.1, h.2⟩, h2, h3, h4⟩
theorem ok_far {κ : Nat → Prop} {W2 W5 w6 : World} {v : Value} (hκ : ∀ b, κ b → b < W2.heap.size) (h1 : ∀ k, v.ownBlock = some k → W2.heap.size ≤ k ∧ k < W5.heap.size) (h2 : W5.heap.size ≤ w6.heap.size) (h3 : W2.heap.size ≤ W5.heap.size) :
    ∀ b, (κ b ∨ (W5.heap.size ≤ b ∧ b < w6.heap.size)) → (κ b ∨ W2.heap.size ≤ b) ∧ b < w6.heap.size ∧ v.ownBlock ≠ some b := fun b hb => by
  rcases hb with hb | hb
  · have := hκ b hb
    exact ⟨Or.inl hb, by omega, fun e => by have := h1 b e; omega⟩
  · exact ⟨Or.inr (by omega), hb.2, fun e => by have := h1 b e; omega⟩
set_option maxRecDepth 100000 in
set_option maxHeartbeats 12800000 in
theorem ways_any (ok : Nat → Prop) (N K Z : Nat) (body : List Lt) (atoms : List Tm) (hb : body.length ≤ 8) (hbs : ∀ x ∈ body, sizeT x.2 ≤ 20) (hal : atoms.length ≤ 1000) (hat : ∀ t ∈ atoms, GT N K Z t) (w : World) (wk : Nat) (lf : Int) (bv av : Value) (hW : Has w wk #[.int .i64 lf]) (h0 : 0 ≤ lf) (h1 : lf ≤ 1000000) (hok : ∀ b, ok b → b < w.heap.size ∧ b ≠ wk) (hbv : LIn (· < w.heap.size) w body bv) (hav : AtR ok wk w atoms av) :
    Calls Tryz.prog 85 #[.pointer (some ⟨wk, 0, none⟩), bv, av] w (WQ ok N K Z wk w) := by
  obtain ⟨i0, hi, hz0, hz1, hz2⟩ := info_parts Tryz.infoW
  obtain ⟨bp, bc, rfl⟩ := hbv.form
  have hav0 := hav
  obtain ⟨ap, ac, rfl, -⟩ := hav0
  have hwk := hW.lt
  have hbv2 := lin_avoid (dull_has hW) hbv
  obtain ⟨W1, hW1⟩ : ∃ W1, W1 = w.alloc (.cells #[.slice none 0 0] 120) := ⟨_, rfl⟩
  have C1 : Hid (Ch wk w W1) := Lib.hid (by rw [hW1]; exact (Ch.refl _ _).alloc _)
  have H1 : Hid (Has W1 wk #[.int .i64 lf]) := Lib.hid (by rw [hW1]; exact hW.alloc _)
  have Q1 : Hid (WIn (fun b => ok b ∨ (w.heap.size ≤ b ∧ b < W1.heap.size)) W1 [[]] (.slice (some ⟨w.heap.size, 0, none⟩) 1 1)) := Lib.hid (by rw [hW1]; exact win_one ok w)
  have BB := Lib.hid (fun w' (g : Ch wk w w') => lin_ch2 hbv2 g)
  have AA := Lib.hid (fun w' (g : Ch wk w w') => AtR.ch hav g hok)
  have HOK := Lib.hid hok
  have BZ := Lib.hid hbs
  have AT := Lib.hid hat
  have HWK := Lib.hid hwk
  generalize hnb : body.length = nb at *
  generalize hna : atoms.length = na at *
  have HNB := Lib.hid hnb
  have HNA := Lib.hid hna
  clear hnb hna hbv hav hbv2 hok hW hwk hbs hat
  go_enter Tryz.func85, Tryz.ntmps85
  go_upto_region 2 with fail
  rw [← hW1]
  clear hW1
  go_wp2_with fail
  go_loopw [8, 19] (fun ov i wr => ∃ (k : Nat) (qs : List (List Bd)) (lf : Int), k ≤ nb ∧ i = .int .i64 k ∧ 0 ≤ lf ∧ lf ≤ 1000000 ∧ Hid (WIn (fun b => ok b ∨ (w.heap.size ≤ b ∧ b < wr.heap.size)) wr qs ov) ∧ Hid (qs.length ≤ 5001 ∧ ∀ s ∈ qs, GP N K Z s ∧ s.length ≤ k * 20) ∧ Hid (Has wr wk #[.int .i64 lf]) ∧ Hid (Ch wk w wr)) (fun _ i _ => nb - (intOf i).toNat)
  case atStart => exact ⟨0, [[]], lf, Nat.zero_le _, rfl, h0, h1, Q1, Lib.hid ⟨by simp, fun s hs => by obtain rfl := List.mem_singleton.1 hs; exact ⟨(fun x hx => by cases hx), Nat.zero_le _⟩⟩, H1, C1⟩
  case round =>
    clear Q1 H1 h0 h1 lf
    obtain ⟨k, qs, lf, hk, rfl, h0, h1, hQ, hP, hH, hC⟩ := hrel
    obtain ⟨pq, cq, rfl⟩ := hQ.out.form
    have hwr := hH.out.lt
    by_cases hlt : k < nb
    · obtain ⟨x, g, o, q, d, hx, rfl, hg, e1, e2, e3, hxs, hxn⟩ := lin_row (BB.out wr hC.out) k (by rw [HNB.out]; exact hlt)
      obtain ⟨W2, hW2⟩ : ∃ W2, W2 = wr.alloc (.cells #[.string x.2.nm, .slice q x.2.args.length d] 24) := ⟨_, rfl⟩
      have A2 : Hid (Has W2 wr.heap.size #[.string x.2.nm, .slice q x.2.args.length d]) := Lib.hid (by rw [hW2]; exact Has.new _ _ _)
      have C2 : Hid (Ch wk wr W2) := Lib.hid (by rw [hW2]; exact (Ch.refl _ _).alloc _)
      have H2 : Hid (Has W2 wk #[.int .i64 lf]) := Lib.hid (by rw [hW2]; exact hH.out.alloc _)
      have C02 := Lib.hid (Ch.trans hC.out C2.out)
      have hw02 := C02.out.size
      obtain ⟨κ, hκ⟩ : ∃ κ : Nat → Prop, κ = fun b => ok b ∨ (w.heap.size ≤ b ∧ b < W2.heap.size) := ⟨_, rfl⟩
      have HK1 : Hid (∀ b, κ b → b < W2.heap.size ∧ b ≠ wk) := Lib.hid (by rw [hκ]; exact kap HOK.out HWK.out hw02)
      have HK2 : Hid (∀ b, κ b → ok b ∨ (w.heap.size ≤ b ∧ b < W2.heap.size)) := Lib.hid (by rw [hκ]; exact fun b h => h)
      have HK3 : Hid (∀ b, ok b → κ b) := Lib.hid (by rw [hκ]; exact fun b h => Or.inl h)
      have QW2 : Hid (WIn κ W2 qs (.slice pq qs.length cq)) := Lib.hid (by rw [hκ]; exact win_step HOK.out HWK.out hC.out.size hQ.out C2.out)
      clear hκ
      have f1 := (C2.out.cell (g := g) (o := o + k * 3) hg.1 hg.2).trans e1
      have XZ := Lib.hid (BZ.out x (List.mem_of_getElem? hx))
      have XS := Lib.hid (fun w' (g : Ch wk wr w') => slin_ch2 hxs g)
      have XN := Lib.hid hxn
      obtain ⟨z2, hz2'⟩ : ∃ z, (x.2.nm.toList == [100, 105, 115, 116, 105, 110, 99, 116]) = z := ⟨_, rfl⟩
      obtain ⟨z1, hz1'⟩ : ∃ z, x.1 = z := ⟨_, rfl⟩
      have PP := Lib.hid (fun s (hs : s ∈ qs) => show GP N K Z s ∧ s.length ≤ (k + 1) * 20 from ⟨(hP.out.2 s hs).1, by have := (hP.out.2 s hs).2; omega⟩)
      have hql := hP.out.1
      have PL := Lib.hid (And.intro hql PP.out)
      rw [hz1'] at f1
      clear hx hxs hxn hz1' BB BZ
      obtain ⟨xn, hxn'⟩ : ∃ n, x.2.nm = n := ⟨_, rfl⟩
      have HXN := Lib.hid hxn'
      rw [hxn'] at hW2 A2 e2 hz2'
      obtain ⟨xa, hxa'⟩ : ∃ n, x.2.args.length = n := ⟨_, rfl⟩
      have HXA := Lib.hid hxa'
      rw [hxa'] at hW2 A2 e3
      clear hxn' hxa'
      generalize hqn : qs.length = qn at *
      have HQN := Lib.hid hqn
      clear hqn
      have sk := Lib.hid (fun (_ : Unit) => show ∃ (k' : Nat) (qs : List (List Bd)) (lf : Int), k' ≤ nb ∧ Value.int .i64 (k + 1) = .int .i64 k' ∧ 0 ≤ lf ∧ lf ≤ 1000000 ∧ Hid (WIn (fun b => ok b ∨ (w.heap.size ≤ b ∧ b < W2.heap.size)) W2 qs (.slice pq qn cq)) ∧ Hid (qs.length ≤ 5001 ∧ ∀ s ∈ qs, GP N K Z s ∧ s.length ≤ k' * 20) ∧ Hid (Has W2 wk #[.int .i64 lf]) ∧ Hid (Ch wk w W2) from
        ⟨k + 1, qs, lf, by omega, rfl, h0, h1, Lib.hid (win_step HOK.out HWK.out hC.out.size hQ.out C2.out), Lib.hid (by rw [HQN.out]; exact PL.out), H2, C02⟩)
      go_upto_region 6 with fail
      rw [← hW2]
      clear hW2 e1 e2 e3
      obtain ⟨y1, y2, y3, y4, y5⟩ := A2.out.two
      cases z1
      · cases z2
        · go_wp2_with fail
          clear y1 y2 y3 y4 y5 f1
          go_loopw [11, 39] (fun nv i ws => ∃ (m : Nat) (L : List Wy) (lf : Int), m ≤ qn ∧ i = .int .i64 m ∧ 0 ≤ lf ∧ lf ≤ 1000000 ∧ L.length ≤ 5000 ∧ Hid (OwnW κ W2.heap.size ws L nv) ∧ Hid (∀ y ∈ L, GP N K Z y.1 ∧ y.1.length ≤ (k + 1) * 20) ∧ Hid (Has ws wk #[.int .i64 lf]) ∧ Hid (Ch wk W2 ws)) (fun _ i _ => qn - (intOf i).toNat)
          case atStart => exact ⟨0, [], lf, Nat.zero_le _, rfl, h0, h1, Nat.zero_le _, Lib.hid (OwnW.nil _ _ _), Lib.hid (fun y hy => by cases hy), H2, Lib.hid (Ch.refl _ _)⟩
          case round =>
            have hw2 := H2.out.lt
            clear h0 h1 sk PL H2 hH
            obtain ⟨m, L, lf, hm, rfl, h0, h1, hLl, hO, hL, hH, hD⟩ := hrel
            by_cases hmlt : m < qn
            · go_wp2_with fail
              go_loopw [11, 44] (fun nv i wt => ∃ (j : Nat) (L : List Wy) (lf : Int), j ≤ na ∧ i = .int .i64 j ∧ 0 ≤ lf ∧ lf ≤ 1000000 ∧ L.length ≤ 5000 ∧ Hid (OwnW κ W2.heap.size wt L nv) ∧ Hid (∀ y ∈ L, GP N K Z y.1 ∧ y.1.length ≤ (k + 1) * 20) ∧ Hid (Has wt wk #[.int .i64 lf]) ∧ Hid (Ch wk W2 wt)) (fun _ i _ => na - (intOf i).toNat)
              case atStart => exact ⟨0, L, lf, Nat.zero_le _, rfl, h0, h1, hLl, hO, hL, hH, hD⟩
              case round =>
                clear h0 h1 hLl hO hL hH hD
                obtain ⟨j, L, lf, hj, rfl, h0, h1, hLl, hO, hL, hH, hD⟩ := hrel
                by_cases hjlt : j < na
                · obtain ⟨va, vc, rfl⟩ := hO.out.form
                  obtain ⟨y, g1, o1, q1, d1, hy, rfl, hg1, u1, u2, hys, hyn⟩ := (AA.out W2 C02.out).row j (by rw [HNA.out]; exact hjlt)
                  obtain ⟨s, g2, o2, q2, d2, hs, rfl, hg2, v1, hps⟩ := win_row QW2.out m (by rw [HQN.out]; exact hmlt)
                  have YT := Lib.hid (AT.out y (List.mem_of_getElem? hy))
                  have SG := Lib.hid (hP.out.2 s (List.mem_of_getElem? hs))
                  have XS5 := Lib.hid (XS.out W2 C2.out)
                  have hg2 := HK1.out _ hg2
                  replace u1 := (hD.out.cell hg1.1 hg1.2).trans u1
                  replace u2 := (hD.out.cell hg1.1 hg1.2).trans u2
                  replace v1 := (hD.out.cell hg2.1 hg2.2).trans v1
                  have hg1 : g1 < wr.heap.size ∧ g1 ≠ wk := ⟨Nat.lt_of_lt_of_le hg1.1 hD.out.size, hg1.2⟩
                  have hg2 : g2 < wr.heap.size ∧ g2 ≠ wk := ⟨Nat.lt_of_lt_of_le hg2.1 hD.out.size, hg2.2⟩
                  have YS := Lib.hid (And.intro (hys.weaken HK3.out) hyn)
                  have PS := Lib.hid hps
                  have hgg1 := Lib.hid hg1
                  have hgg2 := Lib.hid hg2
                  obtain ⟨y1, y2, y3, y4, y5⟩ := (Ch.has hD.out A2.out (by omega)).two
                  obtain ⟨z3, hz3⟩ : ∃ z, (y.nm.toList == xn.toList) = z := ⟨_, rfl⟩
                  have hz3b : (y.nm.toList != xn.toList) = !z3 := by rw [bne, hz3]
                  clear hy hs hys hyn hps
                  obtain ⟨yn, hyn'⟩ : ∃ n, y.nm = n := ⟨_, rfl⟩
                  have HYN := Lib.hid hyn'
                  rw [hyn'] at u1 hz3 hz3b
                  obtain ⟨ya, hya'⟩ : ∃ n, y.args.length = n := ⟨_, rfl⟩
                  have HYA := Lib.hid hya'
                  rw [hya'] at u2
                  obtain ⟨sl, hsl'⟩ : ∃ n, s.length = n := ⟨_, rfl⟩
                  have HSL := Lib.hid hsl'
                  rw [hsl'] at v1
                  clear hyn' hya' hsl'
                  have nx := Lib.hid (fun (n : Nat) => show ∃ (j' : Nat) (L : List Wy) (lf : Int), j' ≤ na ∧ Value.int .i64 (j + 1) = .int .i64 j' ∧ 0 ≤ lf ∧ lf ≤ 1000000 ∧ L.length ≤ 5000 ∧ Hid (OwnW κ W2.heap.size (wr.drewN n) L _) ∧ Hid (∀ y ∈ L, GP N K Z y.1 ∧ y.1.length ≤ (k + 1) * 20) ∧ Hid (Has (wr.drewN n) wk #[.int .i64 lf]) ∧ Hid (Ch wk W2 (wr.drewN n)) from
                    ⟨j + 1, L, lf, by omega, rfl, h0, h1, hLl, Lib.hid (hO.out.drewN n), hL, Lib.hid (hH.out.drewN n), Lib.hid (ch_drewN hD.out n)⟩)
                  cases z3
                  · go_wp2_with fail
                    go_quiet (fail)
                    all_goals
                      go_wp2_with fail
                      go_roundw
                      case rel => exact nx.out _
                      case measure => simp [intOf]; omega
                  · by_cases hl : ya = xa
                    · have hai : ((ya : Int) == (xa : Int)) = true := by rw [beq_iff_eq, hl]
                      have haj : ((ya : Int) != (xa : Int)) = false := by rw [bne, hai]; rfl
                      have t1 := hH.out.cell 0
                      have t2 := hH.out.free 0
                      have t3 := hH.out.lt
                      clear hl
                      go_wp2_with fail
                      go_quiet (fail)
                      all_goals
                        obtain ⟨W5, hW5⟩ : ∃ W5, W5 = (wr.drewN nq).setCell ⟨wk, 0, none⟩ (.int .i64 (lf - 1)) := ⟨_, rfl⟩
                        have K5 : Hid (Ch wk wr W5) := Lib.hid (by rw [hW5]; exact Ch.put (ch_drewN (Ch.refl _ _) nq) (Or.inl rfl) _)
                        have H5 : Hid (Has W5 wk #[.int .i64 (lf - 1)]) := Lib.hid (by rw [hW5]; exact (hH.out.drewN nq).set 0 _)
                        have O5 := Lib.hid (own_ch2 hO.out K5.out (dull_has hH.out) (fun e => by have := (hO.out.1.lt _ e).1; omega))
                        have D5 := Lib.hid (Ch.trans hD.out K5.out)
                        have hsz : s.length + sizeT x.2 ≤ 1000000 := by have := SG.out.2; have := XZ.out; omega
                        have CI := Lib.hid (fun w' (kb : Below W5.heap.size W5 w') => show Calls Tryz.prog 119 #[.agg #[.string xn, .slice q xa d], .agg #[.string yn, .slice q1 ya d1], .slice q2 sl d2] w' (fun e w6 => ∃ (qs : List Bd) (v : Value) (f : Bool), e = .returned (.tuple #[v, .bool f]) ∧ PIn (fun b => κ b ∨ (W5.heap.size ≤ b ∧ b < w6.heap.size)) w6 qs v ∧ GP N K Z qs ∧ qs.length ≤ sl + sizeT x.2 ∧ Below w'.heap.size w' w6) from by
                          have a := ci HK1.out D5.out kb SG.out.1 YT.out hsz PS.out XS5.out YS.out.1 XN.out YS.out.2
                          rw [HXN.out, HXA.out, HYN.out, HYA.out, HSL.out] at a
                          exact a)
                        clear hsz
                        have SN := Lib.hid (fun (n : Nat) (h : n ≤ sl + sizeT x.2) => show n ≤ (k + 1) * 20 from by have := SG.out.2; have := XZ.out; have := HSL.out; omega)
                        have U1 := (K5.out.cell (o := o1 + j * 2) hgg1.out.1 hgg1.out.2).trans u1
                        have U2 := (K5.out.cell (o := o1 + j * 2 + 1) hgg1.out.1 hgg1.out.2).trans u2
                        have V1 := (K5.out.cell (o := o2 + m) hgg2.out.1 hgg2.out.2).trans v1
                        obtain ⟨Y1, Y2, Y3, Y4, Y5⟩ := (Ch.has D5.out A2.out (by omega)).two
                        clear XS5 YS PS nx SG YT XZ
                        go_upto_region 16 with fail
                        rw [← hW5]
                        clear hW5 y1 y2 y3 y4 y5 u1 u2 v1 t1 t2 t3
                        go_region_with (first
                          | (go_at_call 119; (with_reducible refine (CI.out _ (by first | exact Below.refl _ _ | exact (Below.refl _ _).drew | exact below_drewN (Below.refl _ _) _)).mono ?_); rintro e w6 ⟨s9, v6, f, rfl, p1, p2, p3, hb6⟩; have D6 : Hid (Below W5.heap.size W5 w6) := Lib.hid (by first | exact hb6 | exact next0 (Below.refl _ _).drew hb6 | exact next0 (below_drewN (Below.refl _ _) _) hb6); have P6 := Lib.hid (And.intro p1 (And.intro p2 p3)); clear p1 p2 p3 hb6))
                        all_goals
                          have H6 := Lib.hid (H5.out.step0 D6.out)
                          have O6 := Lib.hid (O5.out.below D6.out)
                          have C6 := Lib.hid (Ch.below D5.out D6.out)
                          have S9 := Lib.hid (And.intro P6.out.2.1 (SN.out _ P6.out.2.2))
                          obtain ⟨q6, d6, rfl⟩ := P6.out.1.form
                          clear CI U1 U2 V1 Y1 Y2 Y3 Y4 Y5
                          have hb6 : W2.heap.size ≤ w6.heap.size := C6.out.size
                          have CW := Lib.hid (Ch.trans C02.out C6.out)
                          have hz56 : W5.heap.size ≤ w6.heap.size := D6.out.size
                          have hz25 : W2.heap.size ≤ W5.heap.size := D5.out.size
                          have OB := Lib.hid O5.out.1.lt
                          have hwk6 := H6.out.lt
                          cases f
                          · have t1 := H6.out.cell 0
                            have t2 := H6.out.free 0
                            by_cases hlf : lf = 0
                            · subst hlf
                              go_wp2_with fail
                              refine bodyPost_ret (v := .tuple #[.slice none 0 0, .bool false]) (by simp [results, Tryz.results85, go_sem]) rfl ?_
                              exact ⟨_, false, rfl, (fun h => by cases h), CW.out⟩
                            · have hng : ¬ (lf - 1 < 0) := by omega
                              have h5 : ¬ (5000 < (L.length : Int)) := by omega
                              go_wp2_with fail
                              go_roundw
                              case rel => exact ⟨j + 1, L, lf - 1, by omega, by go_num, by omega, by omega, hLl, O6, hL, H6, C6⟩
                              case measure => simp [intOf]; omega
                          · have A1 : L.length + 1 ≤ maxLen := by unfold maxLen; omega
                            have A2 : (L.length + 1) * 24 ≤ 140737488355328 := by omega
                            have hzb : W2.heap.size ≤ (w6.alloc (.cells #[.slice q6 s9.length d6] 120)).heap.size := by simp; omega
                            have nv1 : (Value.slice va L.length vc).ownBlock ≠ some wk := fun e => by have := OB.out _ e; omega
                            have OKF := Lib.hid (ok_far (v := .slice va L.length vc) (fun b hb => (HK1.out b hb).1) OB.out hz56 hz25)
                            have OBG := Lib.hid (fun k (e : (Value.slice va L.length vc).ownBlock = some k) => (OB.out k e).1)
                            have HL9 : Hid (∀ y ∈ L ++ [(s9, Value.slice q6 s9.length d6)], GP N K Z y.1 ∧ y.1.length ≤ (k + 1) * 20) := Lib.hid (fun y hy => by
                              rcases List.mem_append.1 hy with hy | hy
                              · exact hL.out y hy
                              · obtain rfl := List.mem_singleton.1 hy
                                exact S9.out)
                            by_cases h5 : 5000 < L.length + 1
                            · have h5' : (5000 : Int) < (L.length : Int) + 1 := by omega
                              have h5b : (5000 : Int) < ((L.length + 1 : Nat) : Int) := by omega
                              by_cases hlf : lf = 0
                              · subst hlf
                                go_wp2_with (at_builtin; go_must (refine wpList_append_lies _ rfl _ _ 115 rfl W2.heap.size 120 i0 (.slice none 0 0) 1 24 Tryz.underlying115 hi hz0 hz1 hz2 rfl (by decide) (.slice va L.length vc) L.length (L.map (·.2)) rfl (O6.out.1.alloc _) ⟨w6.heap.size, 0, none⟩ 1 1 [.slice q6 s9.length d6] rfl rfl (news1 _ _ _) (one_s _ _ _) (by decide) A1 A2 hzb (w6.heap.size + 1) (by simp) ?_; intro g7 cap7 w7 hown hgrow hat hlt7; have O7 := Lib.hid (OwnW.add (x := (s9, .slice q6 s9.length d6)) O6.out P6.out.1 OKF.out hown hgrow hat); have C7 := Lib.hid (Ch.grown (Ch.alloc C6.out _) hgrow OBG.out); have H7 := Lib.hid (UniD.Has.grown (H6.out.alloc _) hgrow nv1); have T1 := H7.out.cell 0; have T2 := H7.out.free 0; have T3 := H7.out.lt; have CW7 := Lib.hid (Ch.trans C02.out C7.out); clear hown hgrow hat))
                                refine bodyPost_ret (v := .tuple #[.slice none 0 0, .bool false]) (by simp [results, Tryz.results85, go_sem]) rfl ?_
                                exact ⟨_, false, rfl, (fun h => by cases h), CW7.out⟩
                              · have hng : ¬ (lf - 1 < 0) := by omega
                                go_wp2_with (at_builtin; go_must (refine wpList_append_lies _ rfl _ _ 115 rfl W2.heap.size 120 i0 (.slice none 0 0) 1 24 Tryz.underlying115 hi hz0 hz1 hz2 rfl (by decide) (.slice va L.length vc) L.length (L.map (·.2)) rfl (O6.out.1.alloc _) ⟨w6.heap.size, 0, none⟩ 1 1 [.slice q6 s9.length d6] rfl rfl (news1 _ _ _) (one_s _ _ _) (by decide) A1 A2 hzb (w6.heap.size + 1) (by simp) ?_; intro g7 cap7 w7 hown hgrow hat hlt7; have O7 := Lib.hid (OwnW.add (x := (s9, .slice q6 s9.length d6)) O6.out P6.out.1 OKF.out hown hgrow hat); have C7 := Lib.hid (Ch.grown (Ch.alloc C6.out _) hgrow OBG.out); have H7 := Lib.hid (UniD.Has.grown (H6.out.alloc _) hgrow nv1); have T1 := H7.out.cell 0; have T2 := H7.out.free 0; have T3 := H7.out.lt; have CW7 := Lib.hid (Ch.trans C02.out C7.out); clear hown hgrow hat))
                                refine bodyPost_ret (v := .tuple #[.slice none 0 0, .bool false]) (by simp [results, Tryz.results85, go_sem]) rfl ?_
                                exact ⟨_, false, rfl, (fun h => by cases h), CW7.out⟩
                            · have h5' : ¬ ((5000 : Int) < (L.length : Int) + 1) := by omega
                              have h5b : ¬ ((5000 : Int) < ((L.length + 1 : Nat) : Int)) := by omega
                              by_cases hlf : lf = 0
                              · subst hlf
                                go_wp2_with (at_builtin; go_must (refine wpList_append_lies _ rfl _ _ 115 rfl W2.heap.size 120 i0 (.slice none 0 0) 1 24 Tryz.underlying115 hi hz0 hz1 hz2 rfl (by decide) (.slice va L.length vc) L.length (L.map (·.2)) rfl (O6.out.1.alloc _) ⟨w6.heap.size, 0, none⟩ 1 1 [.slice q6 s9.length d6] rfl rfl (news1 _ _ _) (one_s _ _ _) (by decide) A1 A2 hzb (w6.heap.size + 1) (by simp) ?_; intro g7 cap7 w7 hown hgrow hat hlt7; have O7 := Lib.hid (OwnW.add (x := (s9, .slice q6 s9.length d6)) O6.out P6.out.1 OKF.out hown hgrow hat); have C7 := Lib.hid (Ch.grown (Ch.alloc C6.out _) hgrow OBG.out); have H7 := Lib.hid (UniD.Has.grown (H6.out.alloc _) hgrow nv1); have T1 := H7.out.cell 0; have T2 := H7.out.free 0; have T3 := H7.out.lt; have CW7 := Lib.hid (Ch.trans C02.out C7.out); clear hown hgrow hat))
                                refine bodyPost_ret (v := .tuple #[.slice none 0 0, .bool false]) (by simp [results, Tryz.results85, go_sem]) rfl ?_
                                exact ⟨_, false, rfl, (fun h => by cases h), CW7.out⟩
                              · have hng : ¬ (lf - 1 < 0) := by omega
                                go_wp2_with (at_builtin; go_must (refine wpList_append_lies _ rfl _ _ 115 rfl W2.heap.size 120 i0 (.slice none 0 0) 1 24 Tryz.underlying115 hi hz0 hz1 hz2 rfl (by decide) (.slice va L.length vc) L.length (L.map (·.2)) rfl (O6.out.1.alloc _) ⟨w6.heap.size, 0, none⟩ 1 1 [.slice q6 s9.length d6] rfl rfl (news1 _ _ _) (one_s _ _ _) (by decide) A1 A2 hzb (w6.heap.size + 1) (by simp) ?_; intro g7 cap7 w7 hown hgrow hat hlt7; have O7 := Lib.hid (OwnW.add (x := (s9, .slice q6 s9.length d6)) O6.out P6.out.1 OKF.out hown hgrow hat); have C7 := Lib.hid (Ch.grown (Ch.alloc C6.out _) hgrow OBG.out); have H7 := Lib.hid (UniD.Has.grown (H6.out.alloc _) hgrow nv1); have T1 := H7.out.cell 0; have T2 := H7.out.free 0; have T3 := H7.out.lt; have CW7 := Lib.hid (Ch.trans C02.out C7.out); clear hown hgrow hat))
                                go_roundw
                                case rel => exact ⟨j + 1, L ++ [(s9, .slice q6 s9.length d6)], lf - 1, by omega, by go_num, by omega, by omega, by simp; omega, O7, HL9, H7, C7⟩
                                case measure => simp [intOf]; omega
                    · have hai : ((ya : Int) == (xa : Int)) = false := by rw [beq_eq_false_iff_ne]; omega
                      have haj : ((ya : Int) != (xa : Int)) = true := by rw [bne, hai]; rfl
                      go_wp2_with fail
                      go_quiet (fail)
                      all_goals
                        go_wp2_with fail
                        go_roundw
                        case rel => exact nx.out _
                        case measure => simp [intOf]; omega
                · obtain rfl : j = na := by omega
                  go_wp2_with fail
                  go_roundw
                  case rel => exact ⟨m + 1, L, lf, by omega, by go_num, h0, h1, hLl, hO, hL, hH, hD⟩
                  case measure => simp [intOf]; omega
            · obtain rfl : m = qn := by omega
              go_wp2_with fail
              go_roundw
              case rel => exact ⟨k + 1, L.map (·.1), lf, by omega, by go_num, h0, h1, Lib.hid (hO.out.win.wide fun b hb => hb.elim (fun h => (HK2.out b h).imp id fun h => ⟨h.1, Nat.lt_of_lt_of_le h.2 hD.out.size⟩) fun h => Or.inr ⟨Nat.le_trans hw02 h.1, h.2⟩), Lib.hid ⟨by rw [List.length_map]; omega, fun s hs => by obtain ⟨y, hy, rfl⟩ := List.mem_map.1 hs; exact hL.out y hy⟩, hH, Lib.hid (Ch.trans C02.out hD.out)⟩
              case measure => simp [intOf]; omega
        · go_wp2_with fail
          go_roundw
          case rel => exact sk.out ()
          case measure => simp [intOf]; omega
      · go_wp2_with fail
        go_roundw
        case rel => exact sk.out ()
        case measure => simp [intOf]; omega
    · obtain rfl : k = nb := by omega
      have FN : Hid (qs.length ≤ 5001 ∧ ∀ s ∈ qs, GP N K Z s ∧ s.length ≤ 160) := Lib.hid ⟨hP.out.1, fun s hs => ⟨(hP.out.2 s hs).1, by have := (hP.out.2 s hs).2; omega⟩⟩
      go_wp2_with fail
      refine bodyPost_ret (by simp [results, Tryz.results85, go_sem]; rfl) rfl ?_
      exact ⟨_, true, rfl, fun _ => ⟨qs, lf, hQ.out, FN.out.1, FN.out.2, h0, h1, hH.out⟩, hC.out⟩
end LigX
end Go.Proofs.YtdkpflojdnkbnaaGreatDoor
