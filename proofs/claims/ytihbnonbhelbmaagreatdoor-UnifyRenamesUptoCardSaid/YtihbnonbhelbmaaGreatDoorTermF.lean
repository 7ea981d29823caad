/- Vars and Ground of the code. Condition: at most a million parts. -/
import Derived.Test.YtihbnonbhelbmaaGreatDoorTermE
import Derived.Deep.DeepCutAuto
namespace Go.Proofs.YtihbnonbhelbmaaGreatDoor
open Go Go.RowKit Go.Maps Go.WideMaps
namespace TermF
open LexM TermM TermI Kit TermN TermU TermL TermC TermE
/-- What Vars leaves. -/
def Vrs (ys : List ByteArray) (w : World) (e : Ending) (w' : World) : Prop :=
  ∃ (v' : Value) (base : Nat), e = .returned v' ∧ w'.ownsRow base 9 1 v' ys.length (strs ys) ∧ w.heap.size ≤ base ∧ Below w.heap.size w w'
theorem own_mono {w : World} {base base' : Nat} {e : TypeId} {size n : Nat} {v : Value} {xs : List Value} (h : w.ownsRow base e size v n xs) (hb : base' ≤ base) : w.ownsRow base' e size v n xs := by
  refine ⟨h.1, ?_⟩
  rcases h.2 with h | ⟨g, cap, cur, e1, e2, e3⟩
  · exact Or.inl h
  · exact Or.inr ⟨g, cap, cur, e1, by omega, e3⟩
theorem strs_get (xs : List ByteArray) (k : Nat) (s : ByteArray) (h : xs[k]? = some s) : (strs xs)[k]? = some (.string s) := by
  unfold strs; rw [List.getElem?_map, h]; rfl
/-- An element of a row of strings. -/
theorem row_str {w : World} {base : Nat} {v : Value} {xs : List ByteArray} (h : w.ownsRow base 9 1 v xs.length (strs xs)) {k : Nat} {s : ByteArray} (hk : xs[k]? = some s) : ∃ g cap, v = .slice (some ⟨g, 0, none⟩) xs.length cap ∧ w.cell? ⟨g, k, none⟩ = some (.string s) ∧ base ≤ g ∧ g < w.heap.size := by
  have hlt := (List.getElem?_eq_some_iff.1 hk).1
  have hl := h.lt
  rcases h.2 with ⟨_, e⟩ | ⟨g, cap, cur, rfl, hg, _⟩
  · omega
  · exact ⟨g, cap, rfl, (h.cellAt k (by omega)).trans (strs_get xs k s hk), hg, (hl g rfl).2⟩
theorem row_form {w : World} {base : Nat} {v : Value} {n : Nat} {xs : List Value} (h : w.ownsRow base 9 1 v n xs) : ∃ a c, v = .slice a n c := by
  rcases h.2 with ⟨e, hz⟩ | ⟨g, cap, cur, e, _⟩
  · exact ⟨none, 0, by rw [e, hz]⟩
  · exact ⟨_, cap, e⟩
theorem own_below {w w' : World} {base : Nat} {e : TypeId} {size n : Nat} {v : Value} {xs : List Value} (h : w.ownsRow base e size v n xs) (hb : Below w.heap.size w w') : w'.ownsRow base e size v n xs := by
  have hl := h.lt
  refine ⟨h.1, ?_⟩
  rcases h.2 with h | ⟨g, cap, cur, e1, e2, e3, e4⟩
  · exact Or.inl h
  · exact Or.inr ⟨g, cap, cur, e1, e2, (hb.block g (hl g (by rw [e1]; rfl)).2).trans e3, e4⟩
set_option maxRecDepth 100000 in
set_option maxHeartbeats 3200000 in
theorem vars_any (l : List Tm) (B : Nat) (w : World) (sv : Value) (hB : B ≤ w.heap.size) (h : SlIn (· < B) w l sv) (hz : sizeL l ≤ 1000000) :
    Calls Tryz.prog 54 #[sv] w (Vrs (varsOf (leavesL l)) w) := by
  obtain ⟨i0, hi, hz0, hz1, hz2⟩ := info_parts Tryz.info9s
  have NS := Lib.hid (names_ok h)
  have LL := leavesL_len l
  have CL := Lib.hid (lvs_any l B (w.alloc (.map #[] 0)) (w.heap.size + 1) (.slice none 0 0) sv [] ⟨rfl, Or.inl ⟨rfl, rfl⟩⟩ (by simp) (by omega) (h.gr (Gr.alloc _ _) hB) (by simp; omega))
  have hmm := @run_makeMap Tryz.prog
  have MO : Hid ((w.alloc (.map #[] 0)).ownsMap Tryz.prog 9 (plainElem (H := Unit) Tryz.prog 4) w.heap.size 0 (Dof [])) := Lib.hid (World.ownsMap_made _ _ _ _)
  rw [List.nil_append] at CL
  have VL := varsOf_len (leavesL l)
  have VN : Hid (∀ k s, (leavesL l)[k]? = some s → varsOf ((leavesL l).take (k + 1)) = addV (varsOf ((leavesL l).take k)) s) := Lib.hid (fun k s h => varsOf_next _ k s h)
  have VF : Hid (varsOf ((leavesL l).take (leavesL l).length) = varsOf (leavesL l)) := Lib.hid (by rw [List.take_length])
  have VK : Hid (∀ k, (varsOf ((leavesL l).take k)).length ≤ k) := Lib.hid (fun k => by
    have h1 := varsOf_len ((leavesL l).take k)
    have h2 := List.length_take_le k (leavesL l)
    omega)
  have VZ : Hid (∀ k, ∀ x ∈ varsOf ((leavesL l).take k), x.size ≤ maxLen) := Lib.hid (by
    have gen : ∀ (xs M : List ByteArray), (∀ x ∈ M, x.size ≤ maxLen) → (∀ x ∈ xs, x.size ≤ maxLen) → ∀ x ∈ xs.foldl addV M, x.size ≤ maxLen := by
      intro xs
      induction xs with
      | nil => intro M hM _; exact hM
      | cons a r ih =>
        intro M hM hx
        refine ih (addV M a) ?_ (fun x h => hx x (by simp [h]))
        intro x h
        unfold addV at h
        split at h
        · rcases List.mem_append.1 h with h | h
          · exact hM x h
          · obtain rfl := List.mem_singleton.1 h; exact hx _ (by simp)
        · exact hM x h
    intro k x hx
    exact gen _ [] (fun x h => by simp at h) (fun x h => NS.out x (List.mem_of_mem_take h)) x hx)
  have hnl : (leavesL l).length ≤ 1000000 := by omega
  obtain ⟨p0, c0, rfl⟩ := h.form
  generalize leavesL l = xs at *
  generalize l.length = ml at *
  clear h LL VL
  generalize hxl : xs.length = n at *
  have HN := Lib.hid hxl
  clear hxl
  go_enter Tryz.func54, Tryz.ntmps54
  go_wp2_with fail
  refine CL.out.mono ?_
  rintro e w2 ⟨v9, rfl, ho, hd⟩
  rw [HN.out] at ho
  have D2 := Lib.hid ((below_alloc w (.map #[] 0)).trans (hd.mono (by omega)))
  have M2 := Lib.hid (MO.out.kept (row := none) ⟨hd.os, hd.tape, hd.output, hd.size, fun i hi _ => hd.block i (by simp at hi; omega)⟩ (by simp))
  have O2 := Lib.hid ho
  obtain ⟨a9, c9, rfl⟩ := row_form ho
  have hs2 : w.heap.size < w2.heap.size := by have := hd.size; simp at this; omega
  clear ho hd MO CL hmm
  go_wp2_with fail
  go_loopw [3, 11] (fun v i wr => ∃ k : Nat, k ≤ n ∧ i = .int .i64 k ∧ Hid (wr.ownsRow w2.heap.size 9 1 v (varsOf (xs.take k)).length (strs (varsOf (xs.take k)))) ∧ Hid (wr.ownsMap Tryz.prog 9 (plainElem (H := Unit) Tryz.prog 4) w.heap.size k (Dof (varsOf (xs.take k)))) ∧ Hid (wr.ownsRow (w.heap.size + 1) 9 1 (.slice a9 n c9) n (strs xs)) ∧ Hid (Below w.heap.size w wr) ∧ w2.heap.size ≤ wr.heap.size) (fun _ i _ => n - (intOf i).toNat)
  case atStart => exact ⟨0, Nat.zero_le _, rfl, Lib.hid ⟨rfl, Or.inl ⟨rfl, rfl⟩⟩, M2, O2, D2, Nat.le_refl _⟩
  case round =>
    obtain ⟨k, hk, rfl, hV, hM, hO, hD, hsz⟩ := hrel
    by_cases hlt : k < n
    · obtain ⟨s, hs⟩ : ∃ s, xs[k]? = some s := ⟨xs[k]'(by rw [HN.out]; exact hlt), by simp⟩
      obtain ⟨g, cap, hav, hcell, hgb, hgl⟩ := row_str (xs := xs) (by rw [HN.out]; exact hO.out) hs
      rw [HN.out] at hav
      injection hav with hav1 _ hav2
      subst hav1 hav2
      have hsl : s.size ≤ maxLen := NS.out s (List.mem_of_getElem? hs)
      have LK := look_bool hM.out (VZ.out k) s hsl
      have KV := Lib.hid (fun w => var_any s w hsl)
      have hN := VN.out k s hs
      have hvk := VK.out k
      have HK : keyOf Tryz.prog 9 (.string s) = some (.string s.data.toList) := keyOf_string_mk Tryz.underlying9 hsl
      have A0 : k < maxLen := by unfold maxLen; omega
      unfold addV at hN
      have hvb : varL s.data.toList = varB s := rfl
      rw [hvb] at KV
      clear hs hvb
      cases hb : varB s
      · rw [hb, if_neg (by simp)] at hN
        have HNN := Lib.hid hN
        rw [hb] at KV
        clear hN LK
        go_wp2_with (go_at_call 39; refine (KV.out _).mono ?_; rintro e w' ⟨rfl, rfl⟩)
        go_roundw
        case rel => exact ⟨k + 1, by omega, by go_num, by rw [HNN.out]; exact hV, Lib.hid (by rw [HNN.out]; exact hM.out.mono (by omega)), hO, hD, hsz⟩
        case measure => simp [intOf]; omega
      · rw [hb] at hN KV
        cases hh : hasB (varsOf (xs.take k)) s
        · rw [hh, if_pos ⟨rfl, rfl⟩] at hN
          have HNN := Lib.hid hN
          rw [hh] at LK
          have D0 := Lib.hid (Dof_snoc (varsOf (xs.take k)) s)
          have A1 : (varsOf (xs.take k)).length + 1 ≤ maxLen := by unfold maxLen; omega
          have A2 : ((varsOf (xs.take k)).length + 1) * 16 ≤ 140737488355328 := by omega
          have hV0 := hV
          clear hN hvk
          generalize varsOf (xs.take k) = M at *
          go_upto_region 8 with (first | (go_at_call 39; refine (KV.out _).mono ?_; rintro e w' ⟨rfl, rfl⟩) | (at_mapUpdate; refine wpList_mapUpdate_own _ rfl _ _ _ 92 rfl 9 4 law Tryz.underlying92 _ w.heap.size k _ rfl hM.out A0 _ _ _ rfl rfl HK _ [] (plainElem_bool (H := Unit) Tryz.underlying4 true) ?_; intro w3 hown3 hgrow3))
          have M3 := Lib.hid hown3
          have V3 := Lib.hid (hV0.out.kept hgrow3 (Or.inr (fun e => by have := (hV0.out.lt _ e).1; omega)))
          have O3 := Lib.hid (hO.out.kept hgrow3 (Or.inr (fun e => by have := (hO.out.lt _ e).1; omega)))
          have D3 := Lib.hid (hD.out.grown hgrow3 hD.out.size (fun j hj => by cases hj; exact Nat.le_refl _))
          have hsz3 : w2.heap.size ≤ w3.heap.size := Nat.le_trans hsz hgrow3.size
          have A3 : w2.heap.size ≤ (w3.alloc (.cells #[.string s] 9)).heap.size := by simp; omega
          clear hown3 hgrow3
          go_wp2_with (at_builtin; refine wpList_append_own _ rfl _ _ 73 rfl w2.heap.size 9 i0 (.string ⟨#[]⟩) 1 16 Tryz.underlying73 hi hz0 hz1 hz2 rfl (by decide) _ M.length (strs M) rfl (V3.out.alloc _) ⟨w3.heap.size, 0, none⟩ 1 1 [.string s] rfl rfl (World.news_of_block (heap_alloc_new w3 _)) (one1 _) A1 A2 A3 ?_; intro v4 w4 hown4 hgrow4 _)
          have M4 := Lib.hid ((M3.out.alloc (.cells #[.string s] 9)).kept hgrow4 (fun e => by have := (V3.out.lt _ e.symm).1; omega))
          have V4 : Hid (w4.ownsRow w2.heap.size 9 1 v4 (M ++ [s]).length (strs (M ++ [s]))) := Lib.hid (by
            unfold strs at hown4 ⊢
            rw [List.map_append, List.length_append]
            exact hown4)
          have O4 := Lib.hid ((O3.out.alloc (.cells #[.string s] 9)).kept hgrow4 (Or.inr (fun e => by
            have h1 := (O2.out.lt _ rfl).2
            have h2 := (V3.out.lt _ e.symm).1
            omega)))
          have D4 := Lib.hid ((D3.out.alloc (by exact D3.out.size) (.cells #[.string s] 9)).grown hgrow4 (by have := D3.out.size; simp; omega) (fun j hj => by have := (V3.out.lt j hj).1; omega))
          have hsz4 : w2.heap.size ≤ w4.heap.size := by have := hgrow4.size; simp at this; omega
          clear hown4 hgrow4
          go_wp2_with fail
          go_roundw
          case rel => exact ⟨k + 1, by omega, by go_num, by rw [HNN.out]; exact V4, Lib.hid (by rw [HNN.out, D0.out]; exact M4.out), O4, D4, hsz4⟩
          case measure => simp [intOf]; omega
        · rw [hh, if_neg (by simp)] at hN
          have HNN := Lib.hid hN
          rw [hh] at LK
          clear hN
          go_wp2_with (go_at_call 39; refine (KV.out _).mono ?_; rintro e w' ⟨rfl, rfl⟩)
          go_roundw
          case rel => exact ⟨k + 1, by omega, by go_num, by rw [HNN.out]; exact hV, Lib.hid (by rw [HNN.out]; exact hM.out.mono (by omega)), hO, hD, hsz⟩
          case measure => simp [intOf]; omega
    · obtain rfl : k = n := by omega
      have hV2 := hV.out
      rw [VF.out] at hV2
      have HV2 := Lib.hid hV2
      clear hV2
      go_wp2_with fail
      go_ret
      exact ⟨_, _, rfl, HV2.out, by omega, hD.out⟩
end TermF
end Go.Proofs.YtihbnonbhelbmaaGreatDoor
