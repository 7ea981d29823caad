/- The reference's Vars. Condition: at most a million parts. -/
import Derived.Test.YtgfdplmilichiaaDoorTermLv
import Derived.Deep.RegionHeld3
namespace Go.Proofs.YtgfdplmilichiaaDoor
open Go Go.RowKit
namespace TermVr
open LexM TermM TermI Kit TermN TermU TermL TermC TermE TermF TermQ TermLs TermLv
theorem varsOf_one (xs : List ByteArray) (s : ByteArray) : varsOf (xs ++ [s]) = addV (varsOf xs) s := by unfold varsOf; rw [List.foldl_append]; rfl
theorem leaves_sub {l : List Tm} {k : Nat} {t : Tm} (h : l[k]? = some t) : ∀ x ∈ leavesT t, x ∈ leavesL l := by
  intro x hx
  rw [← List.take_append_drop (k + 1) l, leavesL_app, leaves_next l k t h]
  simp [hx]
set_option maxRecDepth 100000 in
set_option maxHeartbeats 6400000 in
theorem rvars_any (l : List Tm) (B : Nat) (w : World) (sv : Value) (hB : B ≤ w.heap.size) (h : SlIn (· < B) w l sv) (hz : sizeL l ≤ 1000000) :
    Calls Tryd.prog 31 #[sv] w (Vrs (varsOf (leavesL l)) w) := by
  obtain ⟨i0, hi, hz0, hz1, hz2⟩ := info_parts Tryd.info9s
  have NS := names_ok h
  obtain ⟨p, c, rfl, _, hc, hm, hR⟩ := h.row
  have HR := Lib.hid hR
  have HB := Lib.hid hB
  have NX : Hid (∀ k t, l[k]? = some t → leavesL (l.take (k + 1)) = leavesL (l.take k) ++ leavesT t) := Lib.hid (fun k t h => leaves_next l k t h)
  have LN : Hid (∀ k, (leavesL (l.take k)).length ≤ 1000000) := Lib.hid (fun k => by
    have h1 := leavesL_len (l.take k)
    have h2 := sizeL_take l k
    omega)
  have MT : Hid (∀ k t, l[k]? = some t → ∀ x ∈ leavesT t, x.size ≤ maxLen) := Lib.hid (fun k t h x hx => NS x (leaves_sub h x hx))
  have IH : Hid (∀ k t, l[k]? = some t → ∀ (w' : World) (sv : Value), B ≤ w'.heap.size → SlIn (· < B) w' t.args sv →
      Calls Tryd.prog 57 #[.agg #[.string t.nm, sv]] w' (Vrs (leavesT t) w')) := Lib.hid (fun k t hk w' sv hb hs => by
    refine rlv_any t B w' sv hb hs ?_
    have e := size_get hk
    omega)
  have NE := Lib.hid (fun t => leavesT_ne t)
  have FL : Hid (leavesL (l.take l.length) = leavesL l) := Lib.hid (by simp)
  have X0 : Hid (leavesL (l.take 0) = []) := Lib.hid (by simp [leavesL])
  have hlf : l.length ≤ 1000000 := by have := len_size l; omega
  generalize hlm : l.length = m at *
  have HM := Lib.hid hlm
  unfold Vrs
  clear hR h hlm hB hz hc hm NS
  go_enter Tryd.func31, Tryd.ntmps31
  go_wp2_with fail
  go_loopw [3, 9] (fun v i wr => ∃ k : Nat, k ≤ m ∧ i = .int .i64 k ∧ Hid (wr.ownsRow w.heap.size 9 1 v (varsOf (leavesL (l.take k))).length (strs (varsOf (leavesL (l.take k))))) ∧ Hid (Below w.heap.size w wr)) (fun _ i _ => m - (intOf i).toNat)
  case atStart => exact ⟨0, Nat.zero_le _, rfl, by rw [X0.out]; exact Lib.hid ⟨rfl, Or.inl ⟨rfl, rfl⟩⟩, Lib.hid (Below.refl _ _)⟩
  case round =>
    obtain ⟨k, hk, rfl, hO, hD⟩ := hrel
    by_cases hlt : k < m
    · obtain ⟨t, b, o, q, d, ht, rfl, hb, c1, c2, hs, hts⟩ := (Row.deep HR.out hD.out HB.out) k (by rw [HM.out]; exact hlt)
      have NW := Lib.hid (NX.out k t ht)
      have hln2 := LN.out (k + 1)
      have ZS := Lib.hid (MT.out k t ht)
      have hne := NE.out t
      have IT := Lib.hid (IH.out k t ht wr _ (Nat.le_trans HB.out hD.out.size) hs)
      have hsz := hD.out.size
      clear ht hs hts
      rw [NW.out, List.length_append] at hln2
      generalize leavesL (l.take k) = xs at *
      generalize leavesT t = zs at *
      generalize t.nm = tn at *
      generalize t.args.length = ta at *
      go_wp2_with fail
      refine IT.out.mono ?_
      rintro e w2 ⟨v2, base2, rfl, ho2, hb2, hd2⟩
      obtain ⟨g2, cap2, rfl⟩ : ∃ g cap, v2 = .slice (some ⟨g, 0, none⟩) zs.length cap := by
        rcases ho2.2 with ⟨_, e⟩ | ⟨g, cap, cur, e1, _⟩
        · omega
        · exact ⟨g, cap, e1⟩
      obtain ⟨hg1, hg2⟩ := ho2.lt g2 rfl
      have O1 : Hid (w2.ownsRow w.heap.size 9 1 u3 (varsOf (xs ++ zs.take 0)).length (strs (varsOf (xs ++ zs.take 0)))) := Lib.hid (by rw [List.take_zero, List.append_nil]; exact own_below hO.out hd2)
      have V1 : Hid (u3.ownBlock ≠ some g2) := Lib.hid (fun e => by have := (hO.out.lt _ e).2; omega)
      have D1 := Lib.hid (hD.out.trans (hd2.mono hsz))
      have A1 := Lib.hid ho2
      have LV : Hid (∀ q, (varsOf (xs ++ zs.take q)).length ≤ 1000000) := Lib.hid (fun q => by
        have h1 := varsOf_len (xs ++ zs.take q)
        rw [List.length_append, List.length_take] at h1
        omega)
      have VN : Hid (∀ q s, zs[q]? = some s → varsOf (xs ++ zs.take (q + 1)) = addV (varsOf (xs ++ zs.take q)) s) := Lib.hid (fun q s h => by
        rw [take_get zs q s h, ← List.append_assoc, varsOf_one])
      have FZ : Hid (varsOf (xs ++ zs.take zs.length) = varsOf (leavesL (l.take (k + 1)))) := Lib.hid (by rw [List.take_length, NW.out])
      generalize hzl : zs.length = n at *
      have HN := Lib.hid hzl
      have hnl : n ≤ 1000000 := by omega
      clear ho2 hd2 IT hzl hO hD NW hsz hln2
      clear c1 c2 hb2
      clear wr
      go_wp2_with fail
      go_loopw [3, 19] (fun v j wx => ∃ q : Nat, q ≤ n ∧ j = .int .i64 q ∧ Hid (wx.ownsRow w.heap.size 9 1 v (varsOf (xs ++ zs.take q)).length (strs (varsOf (xs ++ zs.take q)))) ∧ Hid (v.ownBlock ≠ some g2) ∧ Hid (wx.ownsRow base2 9 1 (.slice (some ⟨g2, 0, none⟩) n cap2) n (strs zs)) ∧ Hid (Below w.heap.size w wx)) (fun _ j _ => n - (intOf j).toNat)
      case atStart => exact ⟨0, Nat.zero_le _, rfl, O1, V1, A1, D1⟩
      case round =>
        obtain ⟨q, hq, rfl, hO, hV, hA, hD⟩ := hrel
        have hlq := LV.out q
        by_cases hltq : q < n
        · obtain ⟨s, hs⟩ : ∃ s, zs[q]? = some s := ⟨zs[q]'(by rw [HN.out]; exact hltq), by simp⟩
          obtain ⟨g, cap, hav, hcell, hgb, hgl⟩ := row_str (xs := zs) (by rw [HN.out]; exact hA.out) hs
          rw [HN.out] at hav
          injection hav with hav1 _ hav2
          injection hav1 with hav1
          injection hav1 with hav1 _
          subst hav1 hav2
          have hsl : s.size ≤ maxLen := ZS.out s (List.mem_of_getElem? hs)
          have KV := Lib.hid (fun w => rvar_any s w hsl)
          have hN := VN.out q s hs
          unfold addV at hN
          have hvb : varL s.data.toList = varB s := rfl
          rw [hvb] at KV
          clear hs hvb
          cases hb : varB s
          · rw [hb, if_neg (by simp)] at hN
            have HNN := Lib.hid hN
            rw [hb] at KV
            clear hN
            go_wp2_with (go_at_call 16; refine (KV.out _).mono ?_; rintro e w' ⟨rfl, rfl⟩)
            go_roundw
            case rel => exact ⟨q + 1, by omega, by go_num, by rw [HNN.out]; exact hO, hV, hA, hD⟩
            case measure => simp [intOf]; omega
          · rw [hb] at hN KV
            have HS := Lib.hid (has_any (varsOf (xs ++ zs.take q)) s wr w.heap.size u3 hO.out (by omega))
            cases hh : hasB (varsOf (xs ++ zs.take q)) s
            · rw [hh, if_pos ⟨rfl, rfl⟩] at hN
              have HNN := Lib.hid hN
              rw [hh] at HS
              have A1 : (varsOf (xs ++ zs.take q)).length + 1 ≤ maxLen := by unfold maxLen; omega
              have A2 : ((varsOf (xs ++ zs.take q)).length + 1) * 16 ≤ 140737488355328 := by omega
              clear hN hlq
              generalize varsOf (xs ++ zs.take q) = M at *
              go_upto_region 10 with (first | (go_at_call 16; refine (KV.out _).mono ?_; rintro e w' ⟨rfl, rfl⟩) | (go_at_call 58; refine HS.out.mono ?_; rintro e w3 ⟨rfl, hd3⟩))
              have hcell3 : w3.cell? ⟨g2, q, none⟩ = some (.string s) := (hd3.cell (p := ⟨g2, q, none⟩) hgl).trans hcell
              have O3 := Lib.hid (own_below hO.out hd3)
              have R3 := Lib.hid (own_below hA.out hd3)
              have hsz3 := hd3.size
              have D3 := Lib.hid (hD.out.trans (hd3.mono hD.out.size))
              have A3 : w.heap.size ≤ (w3.alloc (.cells #[.string s] 9)).heap.size := by have := D3.out.size; simp; omega
              clear hd3 HS
              go_wp2_with (at_builtin; refine wpList_append_lies _ rfl _ _ 35 rfl w.heap.size 9 i0 (.string ⟨#[]⟩) 1 16 Tryd.underlying35 hi hz0 hz1 hz2 rfl (by decide) u3 M.length (strs M) rfl (O3.out.alloc _) ⟨w3.heap.size, 0, none⟩ 1 1 [.string s] rfl rfl (World.news_of_block (heap_alloc_new w3 _)) (one1 _) (by decide) A1 A2 A3 (w3.heap.size + 1) (by simp) ?_; intro g4 cap4 w4 hown4 hgrow4 hat4 hlt4)
              have V4 : Hid ((Value.slice (some ⟨g4, 0, none⟩) (M.length + 1) cap4).ownBlock ≠ some g2) := Lib.hid (fun e => by
                have e' : g4 = g2 := by simpa [Value.ownBlock] using e
                rcases hat4 with h | h
                · exact hV.out (by rw [h, e'])
                · omega)
              have O4 : Hid (w4.ownsRow w.heap.size 9 1 (.slice (some ⟨g4, 0, none⟩) (M.length + 1) cap4) (M ++ [s]).length (strs (M ++ [s]))) := Lib.hid (by
                unfold strs at hown4 ⊢
                rw [List.map_append, List.length_append]
                exact hown4)
              have R4 := Lib.hid ((R3.out.alloc (.cells #[.string s] 9)).kept hgrow4 (Or.inr (fun e => hV.out e.symm)))
              have D4 := Lib.hid ((D3.out.alloc (by exact D3.out.size) (.cells #[.string s] 9)).grown hgrow4 (by have := D3.out.size; simp; omega) (fun j hj => (O3.out.lt j hj).1))
              clear hown4 hgrow4 hat4
              go_wp2_with fail
              go_roundw
              case rel => exact ⟨q + 1, by omega, by go_num, by rw [HNN.out]; exact O4, V4, R4, D4⟩
              case measure => simp [intOf]; omega
            · rw [hh, if_neg (by simp)] at hN
              have HNN := Lib.hid hN
              rw [hh] at HS
              clear hN
              go_wp2_with (first | (go_at_call 16; refine (KV.out _).mono ?_; rintro e w' ⟨rfl, rfl⟩) | (go_at_call 58; refine HS.out.mono ?_; rintro e w3 ⟨rfl, hd3⟩))
              have O3 := Lib.hid (own_below hO.out hd3)
              have R3 := Lib.hid (own_below hA.out hd3)
              have D3 := Lib.hid (hD.out.trans (hd3.mono hD.out.size))
              clear hd3
              go_roundw
              case rel => exact ⟨q + 1, by omega, by go_num, by rw [HNN.out]; exact O3, hV, R3, D3⟩
              case measure => simp [intOf]; omega
        · obtain rfl : q = n := by omega
          have O5 := hO.out
          rw [FZ.out] at O5
          have O6 := Lib.hid O5
          clear O5
          go_wp2_with fail
          go_roundw
          case rel => exact ⟨k + 1, by omega, by go_num, O6, hD⟩
          case measure => simp [intOf]; omega
    · obtain rfl : k = m := by omega
      have hO2 := hO.out
      rw [FL.out] at hO2
      have hO3 := Lib.hid hO2
      clear hO2
      go_wp2_with fail
      go_ret
      exact ⟨_, _, rfl, hO3.out, Nat.le_refl _, hD.out⟩
end TermVr
end Go.Proofs.YtgfdplmilichiaaDoor
