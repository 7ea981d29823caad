/- law25's marks and hide: values of bases or inputs by bits. Conditions: bits of 64; at most a million values, of which at most 64 are hidden. Made by gnTh.py. -/
import Derived.Test.YtedilgnnfmplgaaDoorNetTp
import Derived.Test.YtedilgnnfmplgaaDoorNetTk
import Derived.Test.YtedilgnnfmplgaaDoorNetBt
namespace Go.Proofs.YtedilgnnfmplgaaDoor
open Go Go.RowKit
namespace NetTh
open Kit TermM TermI NetM NetN NetK NetA NetC NetI NetMk NetTn NetTp NetTm NetTk NetBp NetBt
def markT (b m : Nat) : List Int := tsetL (List.replicate m 0) 1 (bitsL b m)
theorem markt_len (b m : Nat) : (markT b m).length = m := by unfold markT; rw [tsetl_len]; simp
theorem markt_t3 (b m : Nat) : ∀ x ∈ markT b m, T3 x := tsetl_t3 t3_one _ _ (rep_t3 m)
theorem own_none (w : World) : (w.alloc (.cells #[] 3)).ownsRow w.heap.size 3 1 (.slice (some ⟨w.heap.size, 0, none⟩) 0 0) 0 [] :=
  ⟨rfl, Or.inr ⟨w.heap.size, 0, #[], rfl, Nat.le_refl _, heap_alloc_new w _, Nat.le_refl _, by unfold maxLen; omega, rfl, rfl⟩⟩
set_option maxRecDepth 100000 in
set_option maxHeartbeats 3200000 in
theorem marks_any (b m : Nat) (hb : b < 18446744073709551616) (hm : m ≤ 1000000) (w : World) :
    Calls Tryd.prog 26 #[.int .u64 b, .int .i64 m] w (InsE (markT b m) w) := by
  obtain ⟨wm, M, O, G⟩ := make_i w m hm
  have B0 := Lib.hid ((Below.refl w.heap.size w).grown G (Nat.le_refl _) (fun k h => by cases h))
  have CB := Lib.hid (bits_any b m hb wm)
  have NK := Lib.hid (fun x hx => NetOk.nums_mem (bits_ok b m) x hx)
  have F0 : Hid (markT b m = tsetL (List.replicate m 0) 1 ((bitsL b m).take (bitsL b m).length)) := Lib.hid (by rw [List.take_length]; rfl)
  have TL : Hid (∀ i, (tsetL (List.replicate m 0) 1 ((bitsL b m).take i)).length = m) := Lib.hid (fun i => by rw [tsetl_len]; simp)
  have TN := Lib.hid (fun i x (hx : (bitsL b m)[i]? = some x) => tsetl_next (List.replicate m 0) 1 (bitsL b m) hx)
  have SI : Hid (∀ x ∈ markT b m, I64 x) := Lib.hid (fun x hx => t3_i64 (markt_t3 b m x hx))
  have HO := Lib.hid O
  clear O G hb
  generalize markT b m = S at *
  generalize bitsL b m = st at *
  generalize hg0 : w.heap.size = g0 at *
  have HG0 := Lib.hid hg0
  clear hg0
  go_enter Tryd.func26, Tryd.ntmps26
  go_wp2_with fail
  refine CB.out.mono ?_
  rintro e wx ⟨v1, rfl, hv, gx⟩
  have BX : Hid (Below g0 w wx) := Lib.hid (B0.out.trans (gx.mono (by have := B0.out.size; have := HG0.out; omega)))
  have OX : Hid (wx.ownsRow g0 3 1 (.slice (some ⟨g0, 0, none⟩) m m) m (numV (tsetL (List.replicate m 0) 1 (st.take 0)))) := Lib.hid (own_below HO.out gx)
  obtain ⟨ps, cs, rfl⟩ := hv.form
  have hcap : st.length ≤ maxLen := by obtain ⟨_, h1, h2⟩ := hv.cap; omega
  unfold maxLen at hcap
  have IVS := Lib.hid (readn hv (fun b (h : wm.heap.size ≤ b ∧ b < wx.heap.size) => h.2))
  have SEP := Lib.hid hv
  have MZ : Hid (g0 < wm.heap.size) := Lib.hid ((HO.out.lt g0 rfl).2)
  clear gx hv CB M HO B0
  generalize hbl : st.length = lb at *
  have HBL := Lib.hid hbl
  clear hbl
  have IV2 : Hid (∀ j x, st[j]? = some x → ∀ w' : World, (∀ q o, wm.heap.size ≤ q → q < wx.heap.size → w'.cell? ⟨q, o, none⟩ = wx.cell? ⟨q, o, none⟩) → ∃ g o, ps = some ⟨g, o, none⟩ ∧ w'.cell? ⟨g, o + j, none⟩ = some (.int .i64 x)) := Lib.hid (fun j x hx w' hq => by
    obtain ⟨g, o, e1, e2, _, e4⟩ := SEP.out.at hx
    refine ⟨g, o, e1, (hq g _ e2.1 e2.2).trans ?_⟩
    have := e4 0 _ rfl
    simpa [KN] using this)
  clear IVS SEP
  go_wp2_with fail
  go_loopw [7] (fun i wr => ∃ j : Nat, j ≤ lb ∧ i = .int .i64 j ∧ Hid (wr.ownsRow g0 3 1 (.slice (some ⟨g0, 0, none⟩) m m) m (numV (tsetL (List.replicate m 0) 1 (st.take j)))) ∧ Hid (Below g0 w wr) ∧ Hid (∀ q o, wm.heap.size ≤ q → q < wx.heap.size → wr.cell? ⟨q, o, none⟩ = wx.cell? ⟨q, o, none⟩)) (fun i _ => lb - (intOf i).toNat)
  case atStart => exact ⟨0, Nat.zero_le _, rfl, OX, BX, Lib.hid (fun _ _ _ _ => rfl)⟩
  case round =>
    obtain ⟨j, hj, rfl, hO, hD, hS⟩ := hrel
    by_cases hlj : j < lb
    · obtain ⟨x, hx⟩ : ∃ x, st[j]? = some x := ⟨st[j]'(by rw [HBL.out]; exact hlj), by simp⟩
      obtain ⟨g', o', rfl, z1⟩ := IV2.out j x hx wr hS.out
      have hxr := NK.out x (List.mem_of_getElem? hx)
      have E1 := Lib.hid (TN.out j x hx)
      obtain ⟨t, rfl⟩ : ∃ t : Nat, x = (t : Int) := ⟨x.toNat, by omega⟩
      have t2 : (0 : Int) ≤ (j : Int) := by omega
      have t3 : (j : Int) < lb := by omega
      have t4 : (0 : Int) ≤ (t : Int) := by omega
      have t5 : (t : Int) < m := hxr.2
      obtain ⟨y, hy⟩ : ∃ y, (tsetL (List.replicate m 0) 1 (st.take j))[t]? = some y := ⟨_, List.getElem?_eq_getElem (by rw [TL.out]; omega)⟩
      have x1 := (hO.out.cellAt t (by omega)).trans (tnumv_get hy)
      have x2 := hO.out.frozenAt t
      have ST := Lib.hid (hO.out.stored t (.int .i64 1))
      have S1 : Hid ((numV (tsetL (List.replicate m 0) 1 (st.take j))).set t (.int .i64 1) = numV (tsetL (List.replicate m 0) 1 (st.take (j + 1)))) := Lib.hid (by rw [tnumv_set, E1.out, tset_yes (by rw [TL.out]; omega)])
      have OO := Lib.hid (S1.out ▸ ST.out.1)
      have BB := Lib.hid (hD.out.grown ST.out.2 (by have := HG0.out; have := hD.out.size; omega) (fun k h => by cases h; exact Nat.le_refl _))
      have SS : Hid (∀ q o, wm.heap.size ≤ q → q < wx.heap.size → (wr.setCell ⟨g0, t, none⟩ (.int .i64 1)).cell? ⟨q, o, none⟩ = wx.cell? ⟨q, o, none⟩) := Lib.hid (fun q o h1 h2 => (World.cell?_setCell_other _ _ _ _ (by intro e; injection e with e1 _; have := MZ.out; omega)).trans (hS.out q o h1 h2))
      clear ST S1 E1 hy hx hxr
      go_wp2_with fail
      go_roundw
      case rel => first | exact ⟨j + 1, by omega, by go_num, OO, BB, SS⟩ | ((repeat (apply Exists.intro)); refine ⟨?_, rfl⟩; exact ⟨j + 1, by omega, by go_num, OO, BB, SS⟩)
      case measure => simp [intOf] <;> omega
    · obtain rfl : j = lb := by omega
      have R7 : Hid (RowE KN (fun b => w.heap.size ≤ b ∧ b < wr.heap.size) wr S (.slice (some ⟨g0, 0, none⟩) m m)) := Lib.hid (by
        have hl := TL.out j
        have h := hO.out
        rw [← F0.out] at hl h
        rw [← hl] at h ⊢
        exact (own_row (base := g0) h SI.out).wide fun b hb => ⟨by have := HG0.out; omega, hb.2⟩)
      have DF : Hid (Below w.heap.size w wr) := Lib.hid (by rw [HG0.out]; exact hD.out)
      go_wp2_with fail
      go_ret
      exact InsE.mk R7.out DF.out
set_option maxRecDepth 100000 in
set_option maxHeartbeats 3200000 in
theorem hide_any (l : List Int) (b : Nat) (ok : Nat → Prop) (w : World) (v : Value) (hl : RowE KN ok w l v) (hk : ∀ b, ok b → b < w.heap.size) (hb : b < 18446744073709551616) (hm : l.length ≤ 64) :
    Calls Tryd.prog 28 #[v, .int .u64 b] w (InsE (hideN l b) w) := by
  obtain ⟨i0, hi0, hi1, hi2, hi3⟩ := info_parts Tryd.infoN
  obtain ⟨p, c, rfl⟩ := hl.form
  have NL := Lib.hid (own_none w)
  have RL := Lib.hid (hl.keep (w' := w.alloc (.cells #[] 3)) fun b o hb => (below_alloc _ _).cell (p := ⟨b, o, none⟩) (hk b hb))
  have D0 : Hid (Below w.heap.size w (w.alloc (.cells #[] 3))) := Lib.hid (below_alloc _ _)
  have I0 : Hid (∀ x ∈ l, I64 x) := Lib.hid (by obtain ⟨_, _, _, _, _, _, h, _⟩ := hl; exact h)
  have BT := Lib.hid (fun k => bit_test hb k)
  have HY := Lib.hid (fun k (e : b.testBit k = true) => hide_yes (l := l) e)
  have HN := Lib.hid (fun k (e : b.testBit k = false) => hide_no (l := l) e)
  have HZ := Lib.hid (hide_zero l b)
  have HLn := Lib.hid (fun k => hide_len l b k)
  have SI : Hid (∀ x ∈ hideTo l b l.length, I64 x) := Lib.hid (fun x hx => by
    obtain ⟨j, hj, rfl⟩ := List.getElem_of_mem hx
    rw [hide_len] at hj
    have e := hide_get (l := l) (b := b) (k := l.length) hj
    rw [List.getElem?_eq_getElem (by rw [hide_len]; exact hj)] at e
    rw [Option.some.inj e]
    split
    · unfold I64; omega
    · have e2 : tAt l j = l[j] := t_get (by rw [show ((j : Int)).toNat = j by omega]; exact List.getElem?_eq_getElem _)
      rw [e2]
      exact I0.out _ (List.getElem_mem hj))
  have FIN : Hid (hideN l b = hideTo l b l.length) := Lib.hid rfl
  obtain ⟨bi, hbi⟩ : ∃ z : Int, z = (b : Int) := ⟨_, rfl⟩
  rw [← hbi]
  have HBI := Lib.hid hbi
  clear hbi hb hl hk
  generalize hideN l b = S at *
  have A1 : 0 + l.length ≤ maxLen := by unfold maxLen; omega
  have A2 : (0 + l.length) * 8 ≤ 140737488355328 := by omega
  generalize hn : l.length = m at *
  have HM := Lib.hid hn
  clear hn
  have HG0 : Hid (w.heap.size = w.heap.size) := Lib.hid rfl
  have hz0 : w.heap.size ≤ (w.alloc (.cells #[] 3)).heap.size := by simp
  go_enter Tryd.func28, Tryd.ntmps28
  go_wp2_with (at_builtin; go_must (refine append_nums rfl _ _ 29 rfl w.heap.size 3 i0 (.int .i64 0) 8 Tryd.underlying29 hi0 hi1 hi2 hi3 rfl (.slice (some ⟨w.heap.size, 0, none⟩) 0 0) 0 [] rfl NL.out _ p m c l rfl RL.out A1 A2 hz0 ?_; intro v2 w2 hown2 hgrow2 hob2; have D2 := Lib.hid (D0.out.grown hgrow2 hz0 (fun j hj => (NL.out.lt j hj).1)); have O2 : Hid (w2.ownsRow w.heap.size 3 1 v2 m (numV (hideTo l b 0))) := Lib.hid (by have h := hown2; rw [Nat.zero_add] at h; rw [HZ.out]; exact h); clear hown2 hgrow2 hob2; obtain ⟨a2, c2, rfl⟩ := form1 O2.out))
  go_loopw [6] (fun i wr => ∃ k : Nat, k ≤ m ∧ i = .int .i64 k ∧ Hid (wr.ownsRow w.heap.size 3 1 (.slice a2 m c2) m (numV (hideTo l b k))) ∧ Hid (Below w.heap.size w wr)) (fun i _ => m - (intOf i).toNat)
  case atStart => exact ⟨0, Nat.zero_le _, rfl, O2, D2⟩
  case round =>
    obtain ⟨k, hk, rfl, hO, hD⟩ := hrel
    by_cases hlt : k < m
    · have j0 : (0 : Int) ≤ (k : Int) := by omega
      have j1 : (k : Int) < m := by omega
      have j2 : (k : Int) < 64 := by omega
      have BTk := BT.out k
      rw [← HBI.out] at BTk
      obtain ⟨tb, htb⟩ : ∃ tb, b.testBit k = tb := ⟨_, rfl⟩
      have HTB := Lib.hid htb
      rw [htb] at BTk
      clear htb
      cases tb
      · have OO : Hid (wr.ownsRow w.heap.size 3 1 (.slice a2 m c2) m (numV (hideTo l b (k + 1)))) := Lib.hid (by rw [← HN.out k HTB.out]; exact hO.out)
        go_wp2_with fail
        go_roundw
        case rel => first | exact ⟨k + 1, by omega, by go_num, OO, hD⟩ | ((repeat (apply Exists.intro)); refine ⟨?_, rfl⟩; exact ⟨k + 1, by omega, by go_num, OO, hD⟩)
        case measure => simp [intOf] <;> omega
      · have hpos : ∃ g, a2 = some ⟨g, 0, none⟩ := by
          rcases hO.out.2 with ⟨_, h⟩ | ⟨g, cap, cur, e, _⟩
          · omega
          · injection e with e1 _ _
            exact ⟨g, e1⟩
        obtain ⟨g, rfl⟩ := hpos
        obtain ⟨y, hy⟩ : ∃ y, (hideTo l b k)[k]? = some y := ⟨_, List.getElem?_eq_getElem (by rw [HLn.out]; exact hlt)⟩
        have x1 := (hO.out.cellAt k (by omega)).trans (tnumv_get hy)
        have x2 := hO.out.frozenAt k
        have ST := Lib.hid (hO.out.stored k (.int .i64 2))
        have S1 : Hid ((numV (hideTo l b k)).set k (.int .i64 2) = numV (hideTo l b (k + 1))) := Lib.hid (by rw [tnumv_set, HY.out k HTB.out hlt])
        have OO := Lib.hid (S1.out ▸ ST.out.1)
        have GL : Hid (w.heap.size ≤ g) := Lib.hid ((hO.out.lt g rfl).1)
        have BB := Lib.hid (hD.out.grown ST.out.2 (by have := HG0.out; have := hD.out.size; omega) (fun k h => by cases h; exact GL.out))
        clear ST S1 hy
        go_wp2_with fail
        go_roundw
        case rel => first | exact ⟨k + 1, by omega, by go_num, OO, BB⟩ | ((repeat (apply Exists.intro)); refine ⟨?_, rfl⟩; exact ⟨k + 1, by omega, by go_num, OO, BB⟩)
        case measure => simp [intOf] <;> omega
    · obtain rfl : k = m := by omega
      have R7 : Hid (RowE KN (fun b => w.heap.size ≤ b ∧ b < wr.heap.size) wr S (.slice a2 k c2)) := Lib.hid (by
        have hl := HLn.out k
        have h := hO.out
        have hs := SI.out
        rw [← FIN.out] at hl h hs
        rw [← hl] at h ⊢
        exact (own_row (base := w.heap.size) h hs).wide fun b hb => ⟨by have := HG0.out; omega, hb.2⟩)
      have DF : Hid (Below w.heap.size w wr) := Lib.hid hD.out
      go_wp2_with fail
      go_ret
      exact InsE.mk R7.out DF.out
end NetTh
end Go.Proofs.YtedilgnnfmplgaaDoor
