/- Constants of the code and of the reference. Condition: at most a million parts. -/
import Derived.Test.YtgfdplmilichiaaDoorTermVr
import Derived.Test.YtgfdplmilichiaaDoorTermSo
import Derived.Test.YtgfdplmilichiaaDoorTermH
namespace Go.Proofs.YtgfdplmilichiaaDoor
open Go Go.RowKit
namespace TermCo
open LexM TermM TermI Kit TermN TermU TermL TermC TermE TermF TermQ TermLs TermLv TermVr TermV TermSo TermG TermH
/-- A constant as a term, and its arguments as a value. -/
def lv (s : ByteArray) : Tm × Value := (.mk s [], .slice none 0 0)
def conP (xs : List ByteArray) : List (Tm × Value) := (xs.filter conB).map lv
def conT (xs : List ByteArray) : List Tm := (conP xs).map (·.1)
theorem conP_one (xs : List ByteArray) (s : ByteArray) : conP (xs ++ [s]) = if conB s = true then conP xs ++ [lv s] else conP xs := by
  unfold conP
  rw [List.filter_append, List.map_append]
  cases h : conB s <;> simp [h]
theorem conP_len (xs : List ByteArray) : (conP xs).length ≤ xs.length := by
  unfold conP; rw [List.length_map]; exact List.length_filter_le _ _
theorem conT_size (xs : List ByteArray) : sizeL (conT xs) = (conP xs).length := by
  unfold conT conP
  generalize xs.filter conB = ys
  induction ys with
  | nil => rfl
  | cons a r ih =>
    simp only [List.map_cons, sizeL, List.length_cons] at ih ⊢
    have : sizeT (lv a).1 = 1 := rfl
    omega
theorem conP_ok {xs : List ByteArray} (h : ∀ x ∈ xs, x.size ≤ maxLen) (B : Nat) (w : World) : ∀ x ∈ conP xs, SlIn (· < B) w x.1.args x.2 ∧ x.1.nm.size ≤ maxLen := by
  intro x hx
  unfold conP at hx
  obtain ⟨s, hs, rfl⟩ := List.mem_map.1 hx
  exact ⟨SlIn.none _ _, h s (List.mem_filter.1 hs).1⟩
theorem flat_conP (xs : List ByteArray) (s : ByteArray) : flatL (conP xs ++ [lv s]) = flatL (conP xs) ++ [.string s, .slice none 0 0] := flatL_snoc _ _ _
theorem asc_of_pw {l : List Tm} (h : PwT l) : Asc l := by
  intro i j x y hij hx hy
  obtain ⟨hi, rfl⟩ := List.getElem?_eq_some_iff.1 hx
  obtain ⟨hj, rfl⟩ := List.getElem?_eq_some_iff.1 hy
  exact List.pairwise_iff_getElem.1 h i j hi hj hij
/-- The names of an ascending list with the members of T. -/
def Cns (T : List Tm) (w : World) (e : Ending) (w' : World) : Prop := ∃ l', Asc l' ∧ (∀ t, t ∈ l' ↔ t ∈ T) ∧ l'.length ≤ T.length ∧ Vrs (l'.map Tm.nm) w e w'
theorem asc_len {l T : List Tm} (h : Asc l) (hm : ∀ t, t ∈ l ↔ t ∈ T) : l.length ≤ T.length := by
  have nd : l.Nodup := by
    refine List.pairwise_iff_getElem.2 (fun i j hi hj hij e => ?_)
    have h1 := h i j _ _ hij (List.getElem?_eq_getElem hi) (List.getElem?_eq_getElem hj)
    rw [e, (cmp_zero _ _).2 rfl] at h1
    exact absurd h1 (by decide)
  exact nd.length_le_of_subset (fun x hx => (hm x).1 hx)
theorem strs_nm {l : List Tm} {k : Nat} {t : Tm} (h : l[k]? = some t) : strs ((l.take (k + 1)).map Tm.nm) = strs ((l.take k).map Tm.nm) ++ [.string t.nm] := by
  unfold strs
  rw [take_get l k t h]
  simp
set_option maxRecDepth 100000 in
set_option maxHeartbeats 6400000 in
theorem cons_any (l : List Tm) (B : Nat) (w : World) (sv : Value) (hB : B ≤ w.heap.size) (h : SlIn (· < B) w l sv) (hz : sizeL l ≤ 1000000) :
    Calls Tryd.prog 32 #[sv] w (Cns (conT (leavesL l)) w) := by
  obtain ⟨i0, hi, hz0, hz1, hz2⟩ := info_parts Tryd.info9s
  obtain ⟨i0', hi', hz0', hz1', hz2'⟩ := info_parts Tryd.info28
  have NS := Lib.hid (names_ok h)
  have LL := leavesL_len l
  have CL := Lib.hid (lvs_any l B w w.heap.size (.slice none 0 0) sv [] ⟨rfl, Or.inl ⟨rfl, rfl⟩⟩ (Nat.le_refl _) hB h (by simp; omega))
  rw [List.nil_append] at CL
  have PN : Hid (∀ k s, (leavesL l)[k]? = some s → conP ((leavesL l).take (k + 1)) = if conB s = true then conP ((leavesL l).take k) ++ [lv s] else conP ((leavesL l).take k)) := Lib.hid (fun k s h => by rw [take_get _ k s h, conP_one])
  have PL : Hid (∀ k, (conP ((leavesL l).take k)).length ≤ 1000000) := Lib.hid (fun k => by
    have h1 := conP_len ((leavesL l).take k)
    have h2 := List.length_take_le' k (leavesL l)
    omega)
  have PF : Hid (conP ((leavesL l).take (leavesL l).length) = conP (leavesL l)) := Lib.hid (by rw [List.take_length])
  have ZT : Hid (sizeL (conT (leavesL l)) ≤ 1000000) := Lib.hid (by rw [conT_size]; have := conP_len (leavesL l); omega)
  have hnl : (leavesL l).length ≤ 1000000 := by omega
  have OK : Hid (∀ k B w, ∀ x ∈ conP ((leavesL l).take k), SlIn (· < B) w x.1.args x.2 ∧ x.1.nm.size ≤ maxLen) := Lib.hid (fun k B w => conP_ok (fun x hx => NS.out x (List.mem_of_mem_take hx)) B w)
  obtain ⟨p0, c0, rfl⟩ := h.form
  unfold Cns Vrs
  generalize leavesL l = xs at *
  generalize l.length = ml at *
  clear h LL
  generalize hxl : xs.length = n at *
  have HN := Lib.hid hxl
  clear hxl
  go_enter Tryd.func32, Tryd.ntmps32
  go_wp2_with fail
  refine CL.out.mono ?_
  rintro e w2 ⟨v9, rfl, ho, hd⟩
  rw [HN.out] at ho
  have D2 := Lib.hid hd
  have O2 := Lib.hid ho
  obtain ⟨a9, c9, rfl⟩ := row_form ho
  have hs2 : w.heap.size ≤ w2.heap.size := hd.size
  clear ho hd CL
  go_wp2_with fail
  go_loopw [3, 12] (fun v i wr => ∃ k : Nat, k ≤ n ∧ i = .int .i64 k ∧ Hid (wr.ownsRow w2.heap.size 28 2 v (conP (xs.take k)).length (flatL (conP (xs.take k)))) ∧ Hid (Below w2.heap.size w2 wr)) (fun _ i _ => n - (intOf i).toNat)
  case atStart => exact ⟨0, Nat.zero_le _, rfl, Lib.hid ⟨rfl, Or.inl ⟨rfl, rfl⟩⟩, Lib.hid (Below.refl _ _)⟩
  case round =>
    obtain ⟨k, hk, rfl, hV, hD⟩ := hrel
    by_cases hlt : k < n
    · obtain ⟨s, hs⟩ : ∃ s, xs[k]? = some s := ⟨xs[k]'(by rw [HN.out]; exact hlt), by simp⟩
      obtain ⟨g, cap, hav, hcell, hgb, hgl⟩ := row_str (xs := xs) (by rw [HN.out]; exact own_below O2.out hD.out) hs
      rw [HN.out] at hav
      injection hav with hav1 _ hav2
      subst hav1 hav2
      have hsl : s.size ≤ maxLen := NS.out s (List.mem_of_getElem? hs)
      have KV := Lib.hid (fun w => con_any s w hsl)
      have hN := PN.out k s hs
      have hpk := PL.out k
      have FC := Lib.hid (flat_conP (xs.take k) s)
      clear hs
      cases hb : conB s
      · rw [hb, if_neg (by simp)] at hN
        have HNN := Lib.hid hN
        rw [hb] at KV
        clear hN
        go_wp2_with (go_at_call 59; refine (KV.out _).mono ?_; rintro e w' ⟨rfl, rfl⟩)
        go_roundw
        case rel => exact ⟨k + 1, by omega, by go_num, by rw [HNN.out]; exact hV, hD⟩
        case measure => simp [intOf]; omega
      · rw [hb, if_pos rfl] at hN
        have HNN := Lib.hid hN
        rw [hb] at KV
        have A1 : (conP (xs.take k)).length + 1 ≤ maxLen := by unfold maxLen; omega
        have A2 : ((conP (xs.take k)).length + 1) * 40 ≤ 140737488355328 := by omega
        have A3 : w2.heap.size ≤ (wr.alloc (.cells #[.string s, .slice none 0 0] 28)).heap.size := by have := hD.out.size; simp; omega
        clear hN hpk
        generalize conP (xs.take k) = M at *
        go_wp2_with (first | (go_at_call 59; refine (KV.out _).mono ?_; rintro e w' ⟨rfl, rfl⟩) | (at_builtin; refine wpList_append_own _ rfl _ _ 26 rfl w2.heap.size 28 i0' (.agg #[.string ⟨#[]⟩, .slice none 0 0]) 2 40 Tryd.underlying26 hi' hz0' hz1' hz2' rfl (by decide) _ M.length (flatL M) rfl (hV.out.alloc _) ⟨wr.heap.size, 0, none⟩ 1 1 [.string s, .slice none 0 0] rfl rfl (news2 _ _ _ _) (one2 _ _ _ _) A1 A2 A3 ?_; intro v4 w4 hown4 hgrow4 _))
        have V4 : Hid (w4.ownsRow w2.heap.size 28 2 v4 (M ++ [lv s]).length (flatL (M ++ [lv s]))) := Lib.hid (by rw [FC.out, List.length_append]; exact hown4)
        have D4 := Lib.hid ((hD.out.alloc hD.out.size (.cells #[.string s, .slice none 0 0] 28)).grown hgrow4 (by have := hD.out.size; simp; omega) (fun j hj => (hV.out.lt j hj).1))
        clear hown4 hgrow4
        go_wp2_with fail
        go_roundw
        case rel => exact ⟨k + 1, by omega, by go_num, by rw [HNN.out]; exact V4, D4⟩
        case measure => simp [intOf]; omega
    · obtain rfl : k = n := by omega
      have OKn := OK.out k 0 wr
      have hV2 := hV.out
      rw [PF.out] at hV2 OKn
      have OS : OwnS 0 w2.heap.size wr (conP xs) u3 := ⟨hV2, OKn⟩
      obtain ⟨T, hT⟩ : ∃ T, T = conT xs := ⟨_, rfl⟩
      have HT := Lib.hid hT
      have SI : SlIn (· < wr.heap.size) wr T u3 := by rw [hT]; exact OS.slin (Nat.zero_le _)
      rw [← hT] at ZT
      have CS := Lib.hid (sort_new T wr.heap.size wr u3 (Nat.le_refl _) SI ZT.out)
      obtain ⟨a3, c3, rfl⟩ := SI.form
      have D3 := Lib.hid (D2.out.trans (hD.out.mono hs2))
      have DW := Lib.hid hD.out.size
      have hlT : T.length ≤ 1000000 := Nat.le_trans (len_size _) ZT.out
      clear hV hV2 OKn OS SI PN PL PF OK
      clear hT
      generalize hTl : T.length = tl at *
      have HTL := Lib.hid hTl
      clear hTl
      go_wp2_with fail
      refine CS.out.mono ?_
      rintro e w3 ⟨v3, l', rfl, hA, hM, hS, hd3⟩
      have hll := asc_len hA hM
      rw [HTL.out] at hll
      have HA := Lib.hid hA
      have HM := Lib.hid hM
      have HLL := Lib.hid hll
      obtain ⟨p3, c3', rfl, _, hcc, hmm, hR⟩ := (hS.weaken (ok' := (· < w3.heap.size)) (fun b hb => hb.2)).row
      have HR := Lib.hid hR
      have D5 := Lib.hid (D3.out.trans (hd3.mono D3.out.size))
      have TN : Hid (∀ j t, l'[j]? = some t → strs ((l'.take (j + 1)).map Tm.nm) = strs ((l'.take j).map Tm.nm) ++ [.string t.nm]) := Lib.hid (fun j t h => strs_nm h)
      have TF : Hid (strs ((l'.take l'.length).map Tm.nm) = strs (l'.map Tm.nm)) := Lib.hid (by rw [List.take_length])
      have TL : Hid ((l'.map Tm.nm).length = l'.length) := Lib.hid (by simp)
      have hml : l'.length ≤ 1000000 := by omega
      generalize hq : l'.length = m at *
      have HQ := Lib.hid hq
      clear hA hM hS hd3 hR hll hq hcc hmm hlT CS
      go_wp2_with fail
      go_loopw [6, 27] (fun v i wx => ∃ j : Nat, j ≤ m ∧ i = .int .i64 j ∧ Hid (wx.ownsRow w3.heap.size 9 1 v j (strs ((l'.take j).map Tm.nm))) ∧ Hid (Below w3.heap.size w3 wx)) (fun _ i _ => m - (intOf i).toNat)
      case atStart => exact ⟨0, Nat.zero_le _, rfl, Lib.hid ⟨rfl, Or.inl ⟨rfl, rfl⟩⟩, Lib.hid (Below.refl _ _)⟩
      case round =>
        obtain ⟨j, hj, rfl, hV, hD⟩ := hrel
        by_cases hlt : j < m
        · obtain ⟨t, b, o, q, d, ht, rfl, hb, c1, c2, hs, hts⟩ := (Row.deep HR.out hD.out (Nat.le_refl _)) j (by rw [HQ.out]; exact hlt)
          have HNN := Lib.hid (TN.out j t ht)
          have A1 : j + 1 ≤ maxLen := by unfold maxLen; omega
          have A2 : (j + 1) * 16 ≤ 140737488355328 := by omega
          clear hs hts ht
          generalize t.nm = tn at *
          generalize t.args.length = ta at *
          generalize strs ((l'.take j).map Tm.nm) = ys at *
          have A3 : w3.heap.size ≤ ((wr.alloc (.cells #[.string tn, .slice q ta d] 28)).alloc (.cells #[.string tn] 9)).heap.size := by have := hD.out.size; simp; omega
          go_wp2_with (at_builtin; refine wpList_append_own _ rfl _ _ 35 rfl w3.heap.size 9 i0 (.string ⟨#[]⟩) 1 16 Tryd.underlying35 hi hz0 hz1 hz2 rfl (by decide) _ j ys rfl ((hV.out.alloc _).alloc _) ⟨wr.heap.size + 1, 0, none⟩ 1 1 [.string tn] rfl rfl (news1' wr _ _ _) (one1 _) A1 A2 A3 ?_; intro v1 w1 hown1 hgrow1 _)
          have V2 : Hid (w1.ownsRow w3.heap.size 9 1 v1 (j + 1) (strs ((l'.take (j + 1)).map Tm.nm))) := Lib.hid (by rw [HNN.out]; exact hown1)
          have D6 := Lib.hid (((hD.out.alloc hD.out.size _).alloc (by have := hD.out.size; simp; omega) _).grown hgrow1 (by have := hD.out.size; simp; omega) (fun k hk => (hV.out.lt k hk).1))
          clear hown1 hgrow1
          go_wp2_with fail
          go_roundw
          case rel => exact ⟨j + 1, by omega, by go_num, V2, D6⟩
          case measure => simp [intOf]; omega
        · obtain rfl : j = m := by omega
          have hV2 := hV.out
          rw [TF.out] at hV2
          have HV2 := Lib.hid hV2
          have D7 := Lib.hid (D5.out.trans (hD.out.mono D5.out.size))
          clear hV2
          go_wp2_with fail
          go_ret
          exact ⟨l', HA.out, by rw [← HT.out]; exact HM.out, by rw [← HT.out, HQ.out, HTL.out]; exact HLL.out, _, w3.heap.size, rfl, by rw [TL.out]; exact HV2.out, D5.out.size, D7.out⟩
end TermCo
end Go.Proofs.YtgfdplmilichiaaDoor
