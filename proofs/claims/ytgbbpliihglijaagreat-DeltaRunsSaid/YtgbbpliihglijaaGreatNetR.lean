/- The package's rolesValid. No conditions. -/
import Derived.Test.YtgbbpliihglijaaGreatGBB
import Derived.Test.YtgbbpliihglijaaGreatGAH
import Derived.Test.YtgbbpliihglijaaGreatGAB
import Derived.OwnWalk
import Derived.WalkSpells
namespace Go.Proofs.YtgbbpliihglijaaGreat
open Go Go.RowKit Go.Maps Go.WideMaps
namespace NetR
open Kit LexM TermM TermI TermE NetM NetN NetK NetA NetB
theorem has_names {l : List Tm} {k : Nat} (hk : k ≤ l.length) (s : ByteArray) : (allN k fun j => decide ((tmAt l j).nm ≠ s)) = !hasB ((l.map Tm.nm).take k) s := by
  rw [Bool.eq_iff_iff, alln_true]
  unfold hasB
  simp only [Bool.not_eq_true', Bool.eq_false_iff, ne_eq, List.any_eq_true, not_exists, not_and]
  constructor
  · intro h x hx e
    obtain ⟨j, hj⟩ := List.mem_iff_getElem?.1 hx
    have hjl := (List.getElem?_eq_some_iff.1 hj).1
    rw [List.length_take, List.length_map] at hjl
    rw [List.getElem?_take_of_lt (by omega), List.getElem?_map] at hj
    obtain ⟨y, hy, rfl⟩ := Option.map_eq_some_iff.1 hj
    have := of_decide_eq_true (h j (by omega))
    rw [tm_get hy] at this
    exact this (Go.WideShapes.bytes_inj (beq_iff_eq.1 e))
  · intro h j hj
    obtain ⟨y, hy⟩ : ∃ y, l[j]? = some y := ⟨l[j]'(by omega), by simp⟩
    rw [tm_get hy]
    refine decide_eq_true fun e => h y.nm ?_ (by rw [e]; simp)
    refine List.mem_of_getElem? (i := j) ?_
    rw [List.getElem?_take_of_lt hj, List.getElem?_map, hy]
    rfl
set_option maxRecDepth 100000 in
set_option maxHeartbeats 6400000 in
theorem roles_any (l : List Tm) (B : Nat) (w : World) (v : Value) (hB : B ≤ w.heap.size) (hl : SlIn (· < B) w l v) :
    Calls Tryz.prog 44 #[v] w fun e w' => e = .returned (.bool (rolesB l)) ∧ Below w.heap.size w w' := by
  obtain ⟨p, c, rfl⟩ := hl.form
  have LK := Lib.hid (fun w' (q : Below w.heap.size w w') => hl.deep q hB)
  have MO : Hid ((w.alloc (.map #[] 0)).ownsMap Tryz.prog 9 (plainElem (H := Unit) Tryz.prog 4) w.heap.size 0 (Dof ((l.map Tm.nm).take 0))) := Lib.hid (World.ownsMap_made _ _ _ _)
  have NZ : Hid (∀ k, ∀ x ∈ (l.map Tm.nm).take k, x.size ≤ maxLen) := Lib.hid (fun k x hx => by
    obtain ⟨t, ht, rfl⟩ := List.mem_map.1 (List.mem_of_mem_take hx)
    obtain ⟨j, hj⟩ := List.mem_iff_getElem?.1 ht
    obtain ⟨_, _, _, _, _, _, _, _, _, h⟩ := slin_at hl hj
    exact h)
  have RB : Hid (rolesB l = (decide (1 ≤ l.length) && (decide (l.length ≤ 4) && allN l.length (roleAt l)))) := Lib.hid rfl
  have RA : Hid (∀ k x, l[k]? = some x → roleAt l k = (decide (x.args.length = 0) && (nameL x.nm.data.toList && !hasB ((l.map Tm.nm).take k) x.nm))) := Lib.hid (fun k x hx => by
    unfold roleAt
    rw [tm_get hx, has_names (Nat.le_of_lt (List.getElem?_eq_some_iff.1 hx).1)]
    cases x.args <;> simp)
  have NX : Hid (∀ k x, l[k]? = some x → (l.map Tm.nm).take (k + 1) = (l.map Tm.nm).take k ++ [x.nm]) := Lib.hid (fun k x hx => take_get _ k _ (by rw [List.getElem?_map, hx]; rfl))
  generalize rolesB l = R at *
  generalize hn : l.length = n at *
  have HN := Lib.hid hn
  clear hl hn
  by_cases h1 : n < 1
  · have e0 := Lib.hid (show R = false by rw [RB.out, decide_eq_false (by omega)]; rfl)
    have i1 : (n : Int) < 1 := by omega
    go_enter Tryz.func44, Tryz.ntmps44
    go_wp2_with fail
    go_ret
    exact ⟨by rw [e0.out]; rfl, Below.refl _ _⟩
  by_cases h4 : 4 < n
  · have e0 := Lib.hid (show R = false by rw [RB.out, decide_eq_false (show ¬ n ≤ 4 by omega), Bool.false_and, Bool.and_false])
    have i1 : ¬ (n : Int) < 1 := by omega
    have i2 : (4 : Int) < n := by omega
    go_enter Tryz.func44, Tryz.ntmps44
    go_wp2_with fail
    go_ret
    exact ⟨by rw [e0.out]; rfl, Below.refl _ _⟩
  have i1 : ¬ (n : Int) < 1 := by omega
  have i2 : ¬ (4 : Int) < n := by omega
  have RT : Hid ((∀ j, j < n → roleAt l j = true) → R = true) := Lib.hid (fun h => by rw [RB.out, decide_eq_true (by omega), decide_eq_true (by omega), alln_true.2 h]; rfl)
  have RF : Hid (∀ j, j < n → roleAt l j = false → R = false) := Lib.hid (fun j hj h => by rw [RB.out, alln_false hj h, Bool.and_false, Bool.and_false])
  have hmm := @run_makeMap Tryz.prog
  have D0 : Hid (Below w.heap.size w (w.alloc (.map #[] 0))) := Lib.hid (below_alloc _ _)
  clear RB
  go_enter Tryz.func44, Tryz.ntmps44
  go_wp2_with fail
  go_loopw [17] (fun i wr => ∃ k : Nat, k ≤ n ∧ i = .int .i64 k ∧ Hid (∀ j, j < k → roleAt l j = true) ∧ Hid (wr.ownsMap Tryz.prog 9 (plainElem (H := Unit) Tryz.prog 4) w.heap.size k (Dof ((l.map Tm.nm).take k))) ∧ Hid (Below w.heap.size w wr) ∧ w.heap.size + 1 ≤ wr.heap.size) (fun i _ => n - (intOf i).toNat)
  case atStart => exact ⟨0, Nat.zero_le _, rfl, Lib.hid (fun j hj => by omega), MO, D0, by simp⟩
  case round =>
    clear MO D0
    obtain ⟨k, hk, rfl, hT, hM, hD, hz⟩ := hrel
    by_cases hlt : k < n
    · obtain ⟨x, hx⟩ : ∃ x, l[k]? = some x := ⟨l[k]'(by rw [HN.out]; exact hlt), by simp⟩
      obtain ⟨b, o, q, d, rfl, hbB, c0, c1, sx, nx⟩ := slin_at (LK.out wr hD.out) hx
      obtain ⟨W3, hW3⟩ : ∃ z, z = wr.alloc (.cells #[.string x.nm, .slice q x.args.length d] 58) := ⟨_, rfl⟩
      have J3 : Hid (Below wr.heap.size wr W3) := Lib.hid (by rw [hW3]; exact below_alloc _ _)
      have H3 : Hid (Has W3 wr.heap.size #[.string x.nm, .slice q x.args.length d]) := Lib.hid (by rw [hW3]; exact Has.new _ _ _)
      have M3 : Hid (W3.ownsMap Tryz.prog 9 (plainElem (H := Unit) Tryz.prog 4) w.heap.size k (Dof ((l.map Tm.nm).take k))) := Lib.hid (by rw [hW3]; exact hM.out.alloc _)
      have D3 := Lib.hid (next0 hD.out J3.out)
      have hz3 := J3.out.size
      have NM := Lib.hid (TermB.name_any x.nm W3 nx)
      have RA1 := Lib.hid (RA.out k x hx)
      have RF1 := Lib.hid (RF.out k hlt)
      have NX1 := Lib.hid (NX.out k x hx)
      have NZ1 := Lib.hid (NZ.out k)
      have LKB := Lib.hid (look_bool M3.out (NZ.out k) x.nm nx)
      have HK := Lib.hid (show keyOf Tryz.prog 9 (.string x.nm) = some (.string x.nm.data.toList) from keyOf_string_mk Tryz.underlying9 nx)
      have DS := Lib.hid (Dof_snoc ((l.map Tm.nm).take k) x.nm)
      obtain ⟨y1, y2, y3, y4, _⟩ := H3.out.two
      clear hx sx nx NX
      obtain ⟨G, hG⟩ : ∃ G, roleAt l k = G := ⟨_, rfl⟩
      rw [hG] at RA1 RF1
      have GG := Lib.hid hG
      clear hG
      generalize hML : (l.map Tm.nm).take k = ML at *
      have HML := Lib.hid hML
      clear hML
      generalize nameL x.nm.data.toList = nb at *
      generalize x.nm = xn at *
      generalize x.args.length = xa at *
      have hD9 := D3.out
      go_upto_region 7 with fail
      rw [← hW3]
      clear hW3 c0 c1
      go_wp2_with fail
      refine NM.out.mono ?_
      rintro e w' ⟨rfl, rfl⟩
      cases nb
      · have e0 := Lib.hid (RF1.out (by rw [RA1.out, Bool.false_and, Bool.and_false]))
        clear RF1 hD9
        go_wp2_with fail
        go_ret
        exact ⟨by rw [e0.out]; rfl, D3.out⟩
      by_cases ha : xa = 0
      · subst ha
        have LK1 := LKB.out
        generalize hb : hasB ML xn = hb1 at *
        clear hb
        cases hb1
        · have T2 : Hid (∀ j, j < k + 1 → roleAt l j = true) := Lib.hid (fun j hj => by
            by_cases e : j = k
            · subst e
              rw [GG.out, RA1.out]
              rfl
            · exact hT.out j (by omega))
          have A0 : k < maxLen := by unfold maxLen; omega
          have HK1 := HK.out
          clear RF1 hD9
          go_wp2_with (at_mapUpdate; refine wpList_mapUpdate_own _ rfl _ _ _ 95 rfl 9 4 law Tryz.underlying95 _ w.heap.size k _ rfl M3.out A0 _ _ _ rfl rfl HK1 _ [] (plainElem_bool (H := Unit) Tryz.underlying4 true) ?_; intro w7 hown7 hgrow7; have M7 : Hid (w7.ownsMap Tryz.prog 9 (plainElem (H := Unit) Tryz.prog 4) w.heap.size (k + 1) (Dof ((l.map Tm.nm).take (k + 1)))) := Lib.hid (by rw [NX1.out, DS.out]; exact hown7); have D7 := Lib.hid (D3.out.grown hgrow7 (by omega) (fun j hj => by injection hj with hj; omega)); have hz7 := hgrow7.size; clear hown7 hgrow7)
          go_roundw
          case rel => exact ⟨k + 1, by omega, by go_num, T2, M7, D7, by omega⟩
          case measure => simp [intOf]; omega
        · have e0 := Lib.hid (RF1.out (by rw [RA1.out]; rfl))
          clear RF1 hD9
          go_wp2_with fail
          go_ret
          exact ⟨by rw [e0.out]; rfl, D3.out⟩
      · have ha' : (0 : Int) < (xa : Int) := by omega
        have e0 := Lib.hid (RF1.out (by rw [RA1.out, decide_eq_false ha]; rfl))
        clear RF1 hD9
        go_wp2_with fail
        go_ret
        exact ⟨by rw [e0.out]; rfl, D3.out⟩
    · obtain rfl : k = n := by omega
      have e0 := Lib.hid (RT.out hT.out)
      go_wp2_with fail
      go_ret
      exact ⟨by rw [e0.out]; rfl, hD.out⟩
end NetR
end Go.Proofs.YtgbbpliihglijaaGreat
