/- term.Sort: the terms ascending, each once, all in new memory. Condition: at most a million parts. -/
import Derived.Test.YtgfdplmilichiaaDoorTermZ
namespace Go.Proofs.YtgfdplmilichiaaDoor
open Go Go.RowKit
namespace TermG
open LexM TermM TermI Kit TermN TermQ TermR TermU TermX TermY TermZ
/-- Ascending, each once. -/
def Asc (l : List Tm) : Prop := ∀ (i j : Nat) (x y : Tm), i < j → l[i]? = some x → l[j]? = some y → cmpT x y < 0
theorem Asc.nil : Asc [] := fun i j x y _ h => by simp at h
theorem Asc.snoc {l : List Tm} {t : Tm} (h : Asc l) (ht : ∀ x ∈ l, cmpT x t < 0) : Asc (l ++ [t]) := by
  intro i j x y hij hx hy
  have hj := (List.getElem?_eq_some_iff.1 hy).1
  simp at hj
  by_cases hjl : j < l.length
  · rw [List.getElem?_append_left hjl] at hy
    rw [List.getElem?_append_left (by omega)] at hx
    exact h i j x y hij hx hy
  · have e : j = l.length := by omega
    subst e
    rw [List.getElem?_append_right (Nat.le_refl _), Nat.sub_self] at hy
    simp at hy
    subst hy
    rw [List.getElem?_append_left (by omega)] at hx
    exact ht x (List.mem_of_getElem? hx)
/-- One more term of a list in ascending order, unlike the one before it. -/
theorem grow_one {s : List Tm} {L : List (Tm × Value)} {k : Nat} {t : Tm} {v : Value} (ht : s[k]? = some t) (hA : Asc (L.map (·.1))) (hM : ∀ u, u ∈ L.map (·.1) ↔ u ∈ s.take k) (hlt : ∀ u ∈ s.take k, cmpT u t < 0) :
    Asc ((L ++ [(t, v)]).map (·.1)) ∧ ∀ u, u ∈ (L ++ [(t, v)]).map (·.1) ↔ u ∈ s.take (k + 1) := by
  rw [List.map_append]
  refine ⟨hA.snoc (fun x hx => hlt x ((hM x).1 hx)), fun u => ?_⟩
  rw [take_get s k t ht, List.mem_append, List.mem_append, hM u]
  rfl
theorem tri_le {a b c : Tm} (h1 : cmpT a b ≤ 0) (h2 : cmpT b c < 0) : cmpT a c < 0 := (tri_cmp a b c).2.2.1 h1 h2
/-- What Sort leaves. -/
def SortedNew (l : List Tm) (w : World) (e : Ending) (w' : World) : Prop :=
  ∃ (v : Value) (l' : List Tm), e = .returned v ∧ Asc l' ∧ (∀ t, t ∈ l' ↔ t ∈ l) ∧ SlIn (fun b => w.heap.size ≤ b ∧ b < w'.heap.size) w' l' v ∧ Below w.heap.size w w'
set_option maxRecDepth 100000 in
set_option maxHeartbeats 6400000 in
theorem sort_new (l : List Tm) (B : Nat) (w : World) (v : Value) (hB : B ≤ w.heap.size) (h : SlIn (· < B) w l v) (hl : sizeL l ≤ 1000000) :
    Calls Tryd.prog 39 #[v] w (SortedNew l w) := by
  obtain ⟨i0, hi, hz0, hz1, hz2⟩ := info_parts Tryd.info28
  have hll := len_size l
  have CP := Lib.hid (copy_any l B w v h (by omega))
  have hform : ∃ p c, v = .slice p l.length c := h.form
  obtain ⟨p, c, rfl⟩ := hform
  have HL := Lib.hid (fun t (ht : t ∈ l) => (by obtain ⟨k, hk⟩ := List.mem_iff_getElem?.1 ht; have := size_get hk; omega : sizeT t ≤ 1000000))
  clear h
  go_enter Tryd.func39, Tryd.ntmps39
  go_wp2_with fail
  refine CP.out.mono ?_
  rintro e w1 ⟨v1, L, rfl, hL, hown, hall, hd1⟩
  have hLl : L.length = l.length := by rw [← hL]; simp
  by_cases hz : L.length = 0
  · have hnil : l = [] := List.eq_nil_of_length_eq_zero (by omega)
    obtain ⟨q, cq, rfl⟩ : ∃ q cq, v1 = .slice q 0 cq := by
      rcases hown.2 with ⟨e, _⟩ | ⟨g, cap, cur, e, _⟩
      · exact ⟨none, 0, e⟩
      · exact ⟨_, cap, by rw [e, hz]⟩
    have K0 := Lib.hid (AnyF.slices_SortFunc_none Tryd.sortT q cq (.func (.func 36) #[] #[]) w1)
    have K0 : Hid (Calls Tryd.prog 70 #[.slice q 0 cq, .func (.func 36) #[] #[]] w1 fun e w' => e = .returned (.tuple #[]) ∧ w' = w1) := K0
    have D1 := Lib.hid hd1
    clear hown hall hL hLl HL CP hz
    subst hnil
    go_wp2_with fail
    refine K0.out.mono ?_
    rintro e w2 ⟨rfl, rfl⟩
    go_wp2_with fail
    go_loopw [4, 13] (fun v i wr => v = .slice none 0 0 ∧ i = .int .i64 0 ∧ wr = w2) (fun _ _ _ => 0)
    case atStart => exact ⟨rfl, rfl, rfl⟩
    case round =>
      obtain ⟨rfl, rfl, rfl⟩ := hrel
      go_wp2_with fail
      go_ret
      exact ⟨_, [], rfl, Asc.nil, fun t => Iff.rfl, SlIn.none _ _, D1.out⟩
  obtain ⟨g, cap, rfl, hg⟩ : ∃ g cap, v1 = .slice (some ⟨g, 0, none⟩) L.length cap ∧ w.heap.size ≤ g := by
    rcases hown.2 with ⟨_, e⟩ | ⟨g, cap, cur, e, hg, _⟩
    · exact absurd e hz
    · exact ⟨g, cap, e, hg⟩
  have hgl := (hown.lt g rfl).2
  have KS := Lib.hid (sort_any B w1 w.heap.size g cap L (by omega) (fun x hx => ⟨(hall x hx).1.deep hd1 hB, (hall x hx).2⟩) hown (by omega) (by intro e; exact hz (by rw [e]; rfl)))
  have D1 := Lib.hid hd1
  have ML : Hid (∀ t, t ∈ L.map (·.1) ↔ t ∈ l) := Lib.hid (fun t => by rw [hL])
  have hnn : L.length ≤ 1000000 := by omega
  have HLL := Lib.hid hLl
  clear hown hall hL hd1 CP
  generalize hn : L.length = n at *
  have HN := Lib.hid hn
  clear hn hz hLl hll
  go_wp2_with fail
  refine KS.out.mono ?_
  rintro e w2 ⟨L', rfl, hp, hsrt, hin, hblk, hd2⟩
  have hs2 : ((L'.map (·.1)).length = n) := by rw [List.length_map, hp.length_eq]; exact HN.out
  have hgl2 : g < w2.heap.size := Nat.lt_of_lt_of_le hgl hd2.size
  have hBg : B ≤ w2.heap.size := by omega
  obtain ⟨p', c', e', _, _, _, hR⟩ := (hin.weaken (ok' := (· < w2.heap.size)) (fun b hb => by rcases hb with hb | hb <;> omega)).row
  rw [hs2] at e'
  have e2 : p' = some ⟨g, 0, none⟩ := by injection e' with e2 _ _; exact e2.symm
  subst e2
  have D2 := Lib.hid (D1.out.trans (hd2.mono hg))
  have HS : Hid (∀ t, t ∈ L'.map (·.1) ↔ t ∈ l) := Lib.hid (fun t => by
    rw [← ML.out t, List.mem_map, List.mem_map]
    constructor
    · rintro ⟨x, a, b⟩; exact ⟨x, hp.mem_iff.1 a, b⟩
    · rintro ⟨x, a, b⟩; exact ⟨x, hp.mem_iff.2 a, b⟩)
  have ORD : Hid (∀ (i j : Nat) (x y : Tm), i < j → (L'.map (·.1))[i]? = some x → (L'.map (·.1))[j]? = some y → cmpT x y ≤ 0) := Lib.hid (fun i j x y hij hx hy => by
    rw [List.getElem?_map] at hx hy
    obtain ⟨x', hx', rfl⟩ := Option.map_eq_some_iff.1 hx
    obtain ⟨y', hy', rfl⟩ := Option.map_eq_some_iff.1 hy
    exact hsrt i j x' y' hij hx' hy')
  generalize L'.map (·.1) = s at *
  have HR := Lib.hid hR
  have HM := Lib.hid hs2
  have LE : Hid (∀ k t, s[k]? = some t → ∀ u ∈ s.take k, cmpT u t ≤ 0) := Lib.hid (fun k t ht u hu => by
    obtain ⟨i, hi⟩ := List.mem_iff_getElem?.1 hu
    have hlt := (List.getElem?_eq_some_iff.1 hi).1
    simp at hlt
    rw [List.getElem?_take_of_lt (by omega)] at hi
    exact ORD.out i k u t (by omega) hi ht)
  clear hp hsrt hin hblk hd2 hR KS ML D1 e' hs2 ORD
  go_wp2_with fail
  go_loopw [4, 13] (fun v i wr => ∃ (k : Nat) (M : List (Tm × Value)), k ≤ n ∧ i = .int .i64 k ∧ Hid (Own w2.heap.size wr M v) ∧ Hid (Asc (M.map (·.1))) ∧ Hid (∀ u, u ∈ M.map (·.1) ↔ u ∈ s.take k) ∧ Hid (M.length ≤ k) ∧ Hid (Below w2.heap.size w2 wr)) (fun _ i _ => n - (intOf i).toNat)
  case atStart => exact ⟨0, [], Nat.zero_le _, rfl, Lib.hid (Own.nil _ _), Lib.hid Asc.nil, Lib.hid (fun u => by simp), Lib.hid (Nat.le_refl _), Lib.hid (Below.refl _ _)⟩
  case round =>
    obtain ⟨k, M, hk, rfl, hO, hA, hMm, hMl, hD⟩ := hrel
    by_cases hlt : k < n
    · obtain ⟨t, b, o, q, d, ht, hbo, hb, c1, c2, hs, hts⟩ := (Row.deep HR.out hD.out (Nat.le_refl _)) k (by rw [HM.out]; exact hlt)
      injection hbo with hbo
      injection hbo with e1 e2
      subst e1 e2
      rw [Nat.zero_add] at c1 c2
      have HT := Lib.hid ht
      have HTS := Lib.hid hts
      have HS' := Lib.hid hs
      have CL := Lib.hid (fun w' (g : Below wr.heap.size wr w') => clone_any t w2.heap.size w' _ (Nat.le_trans hD.out.size g.size) (hs.deep g hD.out.size) (HL.out t ((HS.out t).1 (List.mem_of_getElem? ht))))
      have hv := Lib.hid hO.out.1.lt
      have hml := hMl.out
      have A1 : M.length + 1 ≤ maxLen := by unfold maxLen; omega
      have A2 : (M.length + 1) * 40 ≤ 140737488355328 := by omega
      have hgr : g < wr.heap.size := Nat.lt_of_lt_of_le hgl2 hD.out.size
      clear hs hts hml
      by_cases hk0 : k = 0
      · subst hk0
        have NW : Hid (∀ v : Value, Asc ((M ++ [(t, v)]).map (·.1)) ∧ ∀ u, u ∈ (M ++ [(t, v)]).map (·.1) ↔ u ∈ s.take (0 + 1)) := Lib.hid (fun v => grow_one ht hA.out hMm.out (fun u hu => by simp at hu))
        clear ht
        go_wp2_with fail
        go_quiet (fail)
        go_wp2_with fail
        refine (CL.out _ (below_drewN (below_alloc wr _) _)).mono ?_
        rintro e w4 ⟨q1, c1', rfl, s2, b2⟩
        have G2 : Below wr.heap.size wr w4 := Below.trans (below_drewN (below_alloc wr _) _) (b2.mono ((below_drewN (below_alloc wr _) _)).size)
        have S2 := Lib.hid (s2.weaken (fun b hb => (⟨Nat.le_trans ((below_drewN (below_alloc wr _) _)).size hb.1, hb.2⟩ : wr.heap.size ≤ b ∧ b < w4.heap.size)))
        have D2 := Lib.hid (hD.out.trans (G2.mono hD.out.size))
        have O2 := Lib.hid (hO.out.below G2)
        have A4 : w2.heap.size ≤ (w4.alloc (.cells #[.string t.nm, .slice q1 t.args.length c1'] 28)).heap.size := by have := D2.out.size; simp; omega
        have hbl := Lib.hid hD.out.size
        clear s2 b2 G2
        go_wp2_with (at_builtin;  refine wpList_append_lies _ rfl _ _ 26 rfl w2.heap.size 28 i0 (.agg #[.string ⟨#[]⟩, .slice none 0 0]) 2 40 Tryd.underlying26 hi hz0 hz1 hz2 rfl (by decide) u4 M.length (flatL M) rfl (O2.out.1.alloc _) ⟨w4.heap.size, 0, none⟩ 1 1 [.string t.nm, .slice q1 t.args.length c1'] rfl rfl (news2 _ _ _ _) (one2 _ _ _ _) (by decide) A1 A2 A4 (w4.heap.size + 1) (by simp) ?_; intro g5 cap5 w5 hown hgrow hat hlt5)
        have O3 := Lib.hid (O2.out.add S2.out HTS.out hbl.out (fun k hk => (hv.out k hk).2) hown hgrow hat)
        have D3 := Lib.hid ((D2.out.alloc (by exact D2.out.size) _).grown hgrow (by have := D2.out.size; simp; omega) (fun k hk => (hv.out k hk).1))
        clear hown hgrow hat
        go_wp2_with fail
        go_roundw
        case rel => exact ⟨0 + 1, M ++ [(t, .slice q1 t.args.length c1')], by omega, (by first | rfl | go_num), O3, Lib.hid (NW.out _).1, Lib.hid (NW.out _).2, Lib.hid (by have := hMl.out; rw [List.length_append, List.length_singleton]; omega), D3⟩
        case measure => simp [intOf]; omega
      · obtain ⟨t', b', o', q', d', ht', hbo', hb', c1', c2', hs', hts'⟩ := (Row.deep HR.out hD.out (Nat.le_refl _)) (k - 1) (by rw [HM.out]; omega)
        injection hbo' with hbo'
        injection hbo' with e1 e2
        subst e1 e2
        rw [Nat.zero_add] at c1' c2'
        have CC := Lib.hid (fun w' (gg : Below wr.heap.size wr w') => cmp_any t' w2.heap.size w' _ t _ (Nat.le_trans hD.out.size gg.size) hts' HTS.out (hs'.deep gg hD.out.size) (HS'.out.deep gg hD.out.size))
        have hsub : k - 1 + 1 = k := by omega
        have TKP : Hid (s.take k = s.take (k - 1) ++ [t']) := Lib.hid (by rw [← take_get s (k - 1) t' ht', hsub])
        have NW : Hid (cmpT t' t ≠ 0 → ∀ v : Value, Asc ((M ++ [(t, v)]).map (·.1)) ∧ ∀ u, u ∈ (M ++ [(t, v)]).map (·.1) ↔ u ∈ s.take (k + 1)) := Lib.hid (fun hz v => grow_one ht hA.out hMm.out (fun u hu => by
          have h1 := LE.out k t ht t' (by rw [TKP.out]; simp)
          rw [TKP.out] at hu
          rcases List.mem_append.1 hu with hu | hu
          · exact tri_le (LE.out (k - 1) t' ht' u hu) (by omega)
          · obtain rfl := List.mem_singleton.1 hu
            omega))
        have SK : Hid (cmpT t' t = 0 → ∀ u, u ∈ M.map (·.1) ↔ u ∈ s.take (k + 1)) := Lib.hid (fun hz u => by
          rw [hMm.out u, take_get s k t ht, TKP.out]
          have := (cmp_zero t' t).1 hz
          subst this
          simp)
        have i1 : (0 : Int) ≤ (k : Int) - 1 := by omega
        have i2 : ((k : Int) - 1).toNat = k - 1 := by omega
        have i3 : (k : Int) - 1 < n := by omega
        have i4 : ((k : Int) == 0) = false := by simp; omega
        have i5 : IntKind.i64.wrap ((k : Int) - 1) = (k : Int) - 1 := IntWalk.i64_in _ (by omega)
        clear ht ht' hs' hts'
        have E0 := Lib.hid (fun w' (gg : Below (wr.alloc (.cells #[.string t.nm, .slice q t.args.length d] 28)).heap.size (wr.alloc (.cells #[.string t.nm, .slice q t.args.length d] 28)) w') => Has.made gg)
        generalize cmpT t' t = z at *
        by_cases hz : z = 0
        · subst hz
          have SK2 := Lib.hid (SK.out rfl)
          clear SK NW
          go_upto_region 7 with fail
          go_cut [29] (fun s29 wx => s29 = .bool false ∧ Hid (Below wr.heap.size wr wx))
          case first =>
            go_region_with (first | (go_at_call 36; refine (CC.out _ (by exact (below_alloc wr _).drew)).mono ?_; rintro e w3 ⟨rfl, g3⟩; have G3 := Lib.hid (((below_alloc wr _).drew).trans (g3.1.mono (by simp)) : Below wr.heap.size wr w3); have EE := Lib.hid (E0.out w3 (((Below.refl _ _).drew).trans (g3.1.mono (Nat.le_refl _)))); clear g3; obtain ⟨x1, x2, x3, x4, x5⟩ := EE.out.two))
            all_goals
              go_wp2_with fail
              go_meet
              exact ⟨rfl, G3⟩
          case rest =>
            obtain ⟨rfl, G3⟩ := hcut
            go_wp2_with fail
            go_roundw
            case rel => exact ⟨k + 1, M, by omega, by go_num, Lib.hid (hO.out.below G3.out), hA, SK2, Lib.hid (by have := hMl.out; omega), Lib.hid (hD.out.trans (G3.out.mono hD.out.size))⟩
            case measure => simp [intOf]; omega
        · have NW2 := Lib.hid (NW.out hz)
          have hzz : (z != 0) = true := by simpa using hz
          clear SK NW hz
          go_upto_region 7 with fail
          go_cut [29] (fun s29 wx => s29 = .bool true ∧ Hid (Below wr.heap.size wr wx) ∧ Hid (Has wx wr.heap.size #[.string t.nm, .slice q t.args.length d]))
          case first =>
            go_region_with (first | (go_at_call 36; refine (CC.out _ (by exact (below_alloc wr _).drew)).mono ?_; rintro e w3 ⟨rfl, g3⟩; have G3 := Lib.hid (((below_alloc wr _).drew).trans (g3.1.mono (by simp)) : Below wr.heap.size wr w3); have EE := Lib.hid (E0.out w3 (((Below.refl _ _).drew).trans (g3.1.mono (Nat.le_refl _)))); clear g3; obtain ⟨x1, x2, x3, x4, x5⟩ := EE.out.two))
            all_goals
              go_wp2_with fail
              go_meet
              exact ⟨rfl, G3, EE⟩
          case rest =>
            obtain ⟨rfl, G3, EE⟩ := hcut
            obtain ⟨x1, x2, x3, x4, x5⟩ := EE.out.two
            clear CC E0 TKP i1 i2 i3 i4 i5
            go_wp2_with fail
            refine (CL.out _ G3.out).mono ?_
            rintro e w4 ⟨q1, c1', rfl, s2, b2⟩
            have G2 : Below wr.heap.size wr w4 := Below.trans G3.out (b2.mono (G3.out).size)
            have S2 := Lib.hid (s2.weaken (fun b hb => (⟨Nat.le_trans (G3.out).size hb.1, hb.2⟩ : wr.heap.size ≤ b ∧ b < w4.heap.size)))
            have D2 := Lib.hid (hD.out.trans (G2.mono hD.out.size))
            have O2 := Lib.hid (hO.out.below G2)
            have A4 : w2.heap.size ≤ (w4.alloc (.cells #[.string t.nm, .slice q1 t.args.length c1'] 28)).heap.size := by have := D2.out.size; simp; omega
            have hbl := Lib.hid hD.out.size
            clear s2 b2 G2
            go_wp2_with (at_builtin;  refine wpList_append_lies _ rfl _ _ 26 rfl w2.heap.size 28 i0 (.agg #[.string ⟨#[]⟩, .slice none 0 0]) 2 40 Tryd.underlying26 hi hz0 hz1 hz2 rfl (by decide) u4 M.length (flatL M) rfl (O2.out.1.alloc _) ⟨w4.heap.size, 0, none⟩ 1 1 [.string t.nm, .slice q1 t.args.length c1'] rfl rfl (news2 _ _ _ _) (one2 _ _ _ _) (by decide) A1 A2 A4 (w4.heap.size + 1) (by simp) ?_; intro g5 cap5 w5 hown hgrow hat hlt5)
            have O3 := Lib.hid (O2.out.add S2.out HTS.out hbl.out (fun k hk => (hv.out k hk).2) hown hgrow hat)
            have D3 := Lib.hid ((D2.out.alloc (by exact D2.out.size) _).grown hgrow (by have := D2.out.size; simp; omega) (fun k hk => (hv.out k hk).1))
            clear hown hgrow hat
            go_wp2_with fail
            go_roundw
            case rel => exact ⟨k + 1, M ++ [(t, .slice q1 t.args.length c1')], by omega, by go_num, O3, Lib.hid (NW2.out _).1, Lib.hid (NW2.out _).2, Lib.hid (by have := hMl.out; rw [List.length_append, List.length_singleton]; omega), D3⟩
            case measure => simp [intOf]; omega
    · obtain rfl : k = n := by omega
      go_wp2_with fail
      go_ret
      exact ⟨_, M.map (·.1), rfl, hA.out, fun u => by rw [hMm.out u, ← HM.out, List.take_length]; exact HS.out u, hO.out.slin.weaken (fun b hb => ⟨Nat.le_trans D2.out.size hb.1, hb.2⟩), D2.out.trans (hD.out.mono D2.out.size)⟩
end TermG
end Go.Proofs.YtgfdplmilichiaaDoor
