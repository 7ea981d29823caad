/- Texts laid together: TermT. Their own heads stand before each. -/
import Derived.Test.YtdkpflojdnkbnaaGreatDoorHAH
import Derived.Lib.AppendStr
import Derived.Deep.DeepCutAuto
/- The code's Text: the text of a term. Condition: at most 10^8 bytes in all; the variable nameEnds holds its three bytes. -/
namespace Go.Proofs.YtdkpflojdnkbnaaGreatDoor
open Go Go.RowKit Go.Lib
namespace TermT
open LexM TermM TermI Kit TermN TermU TermL TermF
/-- The variable nameEnds holds '(', ',', ')'. -/
def Wd (w : World) : Prop := 0 < w.heap.size ∧ w.cell? ⟨0, 0, none⟩ = some (.int .u8 40) ∧ w.cell? ⟨0, 1, none⟩ = some (.int .u8 44) ∧ w.cell? ⟨0, 2, none⟩ = some (.int .u8 41)
theorem Wd.below {w w' : World} {B : Nat} (h : Wd w) (hb : Below B w w') (hB : 0 < B) : Wd w' :=
  ⟨Nat.lt_of_lt_of_le h.1 hb.size, (hb.cell (p := ⟨0, 0, none⟩) hB).trans h.2.1, (hb.cell (p := ⟨0, 1, none⟩) hB).trans h.2.2.1, (hb.cell (p := ⟨0, 2, none⟩) hB).trans h.2.2.2⟩
def u8s (xs : List UInt8) : List Value := xs.map fun b => Value.int .u8 b.toNat
theorem u8s_app (a b : List UInt8) : u8s (a ++ b) = u8s a ++ u8s b := by simp [u8s]
/-- Block g is the cells of a term: it is no row of bytes. -/
def HasT (w : World) (g : Nat) (cs : Array Value) : Prop := w.heap[g]? = some (.cells cs 24 (0, 0))
theorem HasT.new (w : World) (cs : Array Value) : HasT (w.alloc (.cells cs 24)) w.heap.size cs := heap_alloc_new w _
theorem HasT.has {w : World} {g : Nat} {cs : Array Value} (h : HasT w g cs) : Has w g cs := ⟨_, h⟩
theorem HasT.alloc {w : World} {g : Nat} {cs : Array Value} (h : HasT w g cs) (o : Obj) : HasT (w.alloc o) g cs := by
  have := h.has.lt
  unfold HasT
  rw [Below.heap_alloc w o g this]
  exact h
theorem HasT.grown {w w' : World} {g : Nat} {cs : Array Value} {base n : Nat} {v : Value} {xs : List Value} (h : HasT w g cs) (hg : w.grownBy w' v.ownBlock) (ho : w.ownsRow base 5 1 v n xs) : HasT w' g cs := by
  have hl := h.has.lt
  refine (hg.block g hl (fun e => ?_)).trans h
  rcases ho.2 with ⟨rfl, _⟩ | ⟨g', cap, cur, rfl, _, h3, _⟩
  · cases e
  · have e2 : g = g' := Option.some.inj (show some g = some g' from e)
    subst e2
    unfold HasT at h
    rw [h3] at h
    injection h with h
    injection h with _ h _
    exact absurd h (by decide)
/-- The text of the first k arguments. -/
def argsK (l : List Tm) (k : Nat) : List UInt8 := (tailT (l.take k)).drop 1
theorem argsK_zero (l : List Tm) : argsK l 0 = [] := by simp [argsK, tailT]
theorem argsK_first (l : List Tm) (t : Tm) (h : l[0]? = some t) : argsK l 1 = textT t := by
  unfold argsK
  rw [take_get l 0 t h]
  simp [tailT]
theorem argsK_next (l : List Tm) (k : Nat) (t : Tm) (hk : 0 < k) (h : l[k]? = some t) : argsK l (k + 1) = argsK l k ++ 44 :: textT t := by
  unfold argsK
  rw [take_get l k t h, tailT_app]
  have hne : 1 ≤ (tailT (l.take k)).length := by
    have hlt := (List.getElem?_eq_some_iff.1 h).1
    cases l with
    | nil => simp at h
    | cons a r =>
      cases k with
      | zero => omega
      | succ k => simp [tailT]
  rw [List.drop_append_of_le_length hne]
  simp [tailT]
theorem tail_take (l : List Tm) (k : Nat) : (tailT (l.take k)).length ≤ (tailT l).length := by
  have h : tailT l = tailT (l.take k) ++ tailT (l.drop k) := by rw [← tailT_app, List.take_append_drop]
  rw [h]; simp
theorem text_mk (n : ByteArray) (l : List Tm) : textT (.mk n l) = n.data.toList ++ if l.isEmpty then [] else 40 :: (argsK l l.length ++ [41]) := by
  simp only [textT, argsK, List.take_length]
/-- What appendText leaves. -/
def Txt (base : Nat) (ys : List UInt8) (w : World) (e : Ending) (w' : World) : Prop := ∃ v', e = .returned v' ∧ w'.ownsRow base 5 1 v' ys.length (u8s ys) ∧ Below base w w'
def TxtT (t : Tm) : Prop := ∀ (B : Nat) (w : World) (base : Nat) (v sv : Value) (xs : List UInt8), Wd w → 0 < base → w.ownsRow base 5 1 v xs.length (u8s xs) → base ≤ w.heap.size → B ≤ base → SlIn (· < B) w t.args sv →
  xs.length + (textT t).length ≤ 100000000 → Calls Tryz.prog 121 #[v, .agg #[.string t.nm, sv]] w (Txt base (xs ++ textT t) w)
theorem Tryz.info5u : (Tryz.prog.info? 5).map (fun i => (i.zero, i.size, i.bytes)) = some (some (.int .u8 0), 1, 1) := by kernel_rfl
theorem newsA (w : World) (o : Obj) (a : Value) (t : TypeId) : ∀ j u, [a][j]? = some u → ((w.alloc o).alloc (.cells #[a] t)).cell? ((⟨w.heap.size + 1, 0, none⟩ : Addr).add j) = some u := news1' w a t o
theorem news0 (w : World) (a : Value) (t : TypeId) : ∀ j u, [a][j]? = some u → (w.alloc (.cells #[a] t)).cell? ((⟨w.heap.size, 0, none⟩ : Addr).add j) = some u := World.news_of_block (heap_alloc_new w _)
theorem one_u (x : Int) : ∀ u ∈ [Value.int .u8 x], u.oneCell' = true := by
  intro u hu
  obtain rfl := List.mem_singleton.1 hu
  rfl
theorem text_get {l : List Tm} {k : Nat} {t : Tm} (h : l[k]? = some t) : (argsK l k).length + 1 + (textT t).length ≤ (tailT l).length ∧ (0 < k → (argsK l k).length + 2 + (textT t).length ≤ (tailT l).length) := by
  have e : tailT (l.take (k + 1)) = tailT (l.take k) ++ (44 :: textT t) := by rw [take_get l k t h, tailT_app]; simp [tailT]
  have h1 := tail_take l (k + 1)
  rw [e, List.length_append, List.length_cons] at h1
  have h2 : (argsK l k).length = (tailT (l.take k)).length - 1 := by unfold argsK; simp
  refine ⟨by omega, fun hk => ?_⟩
  have hne : 1 ≤ (tailT (l.take k)).length := by
    have hlt := (List.getElem?_eq_some_iff.1 h).1
    cases l with
    | nil => simp at h
    | cons a r =>
      cases k with
      | zero => omega
      | succ k => simp [tailT]
  omega
set_option maxRecDepth 100000 in
set_option maxHeartbeats 6400000 in
theorem txt_mk (n : ByteArray) (l : List Tm) (ih : ∀ t ∈ l, TxtT t) : TxtT (.mk n l) := by
  obtain ⟨i0, hi, hz0, hz1, hz2⟩ := info_parts Tryz.info5u
  intro B w base v sv xs hw hgb hown hbase hB h hz
  dsimp only [Tm.args, Tm.nm] at h ⊢
  obtain ⟨p, c, rfl, _, hc, hm, hR⟩ := h.row
  have hTX := text_mk n l
  have hns : n.data.toList.length = n.size := by simp
  have hnsz : xs.length + n.size ≤ 100000000 := by rw [hTX, List.length_append] at hz; omega
  have A1 : xs.length + n.size ≤ maxLen := by unfold maxLen; omega
  have A2 : xs.length + n.size ≤ 140737488355328 := by omega
  have A3 : base ≤ (w.alloc (.cells #[.string n, .slice p l.length c] 24)).heap.size := by simp; omega
  have HO := Lib.hid hown
  have HW := Lib.hid hw
  have HR := Lib.hid hR
  have N1 : Hid (u8s xs ++ strCells n = u8s (xs ++ n.data.toList)) := Lib.hid (by rw [u8s_app]; rfl)
  have N2 : Hid (xs.length + n.size = (xs ++ n.data.toList).length) := Lib.hid (by rw [List.length_append, hns])
  by_cases h0 : l = []
  · subst h0
    simp only [List.isEmpty_nil, if_true, List.append_nil] at hTX
    rw [hTX]
    dsimp only [List.length_nil] at A3 ⊢
    clear hR h hown hw hz hTX hns
    unfold Txt
    go_enter Tryz.func121, Tryz.ntmps121
    go_upto_region 2 with (at_builtin; refine wpList_append_own_string _ rfl _ _ 107 9 rfl base 5 i0 Tryz.underlying107 Tryz.underlying9 hi hz0 hz1 hz2 v xs.length (u8s xs) rfl (HO.out.alloc _) n rfl A1 A2 A3 ?_; intro v1 w1 hown1 hgrow1 _)
    have O1 : Hid (w1.ownsRow base 5 1 v1 (xs ++ n.data.toList).length (u8s (xs ++ n.data.toList))) := Lib.hid (by rw [N1.out, N2.out] at hown1; exact hown1)
    have D1 := Lib.hid ((((Below.refl base w)).alloc hbase _).grown hgrow1 A3 (fun k hk => (HO.out.lt k hk).1))
    have X2 : Hid (HasT w1 w.heap.size #[.string n, .slice p 0 c]) := Lib.hid ((HasT.new w #[.string n, .slice p 0 c]).grown hgrow1 (HO.out.alloc _))
    obtain ⟨x1, x2, x3, x4, x5⟩ := X2.out.has.two
    clear hown1 hgrow1
    go_wp2_with fail
    go_ret
    exact ⟨_, rfl, O1.out, D1.out⟩
  · have hlf : ((l.length : Int) == 0) = false := by simp [h0]
    have hlen : l.length ≤ 9223372036854775807 := Nat.le_trans hc hm
    have he : l.isEmpty = false := by cases l <;> simp_all
    rw [he] at hTX
    simp only [Bool.false_eq_true, if_false] at hTX
    have IH : Hid (∀ k t, l[k]? = some t → ∀ (w' : World) (v sv : Value) (ys : List UInt8), Wd w' → w'.ownsRow base 5 1 v ys.length (u8s ys) → base ≤ w'.heap.size → SlIn (· < B) w' t.args sv → ys.length + (textT t).length ≤ 100000000 → Calls Tryz.prog 121 #[v, .agg #[.string t.nm, sv]] w' (Txt base (ys ++ textT t) w')) :=
      Lib.hid (fun k t hk w' v sv ys hw ho hb hs hz => ih t (List.mem_of_getElem? hk) B w' base v sv ys hw hgb ho hb hB hs hz)
    have AL : argsK l l.length = (tailT l).drop 1 := by unfold argsK; rw [List.take_length]
    have hTL : xs.length + n.size + 1 + (tailT l).length ≤ 100000001 := by
      have h1 := congrArg List.length hTX
      rw [List.length_append, List.length_cons, List.length_append, AL, List.length_drop, hns] at h1
      simp at h1
      omega
    have GL : Hid (∀ k t, l[k]? = some t → (argsK l k).length + 1 + (textT t).length ≤ (tailT l).length ∧ (0 < k → (argsK l k).length + 2 + (textT t).length ≤ (tailT l).length)) := Lib.hid (fun k t h => text_get h)
    have GK : Hid (∀ k, (argsK l k).length ≤ (tailT l).length) := Lib.hid (fun k => by have := tail_take l k; unfold argsK; simp; omega)
    have F0 : Hid (argsK l 0 = []) := Lib.hid (argsK_zero l)
    have F1 : Hid (∀ t, l[0]? = some t → argsK l 1 = textT t) := Lib.hid (fun t h => argsK_first l t h)
    have F2 : Hid (∀ k t, 0 < k → l[k]? = some t → argsK l (k + 1) = argsK l k ++ 44 :: textT t) := Lib.hid (fun k t hk h => argsK_next l k t hk h)
    have HTX : Hid (xs ++ textT (.mk n l) = ((xs ++ n.data.toList) ++ [40] ++ argsK l l.length) ++ [41]) := Lib.hid (by rw [hTX]; simp)
    have HB := Lib.hid hB
    generalize xs ++ textT (.mk n l) = YS at *
    generalize hlm : l.length = m at *
    have HM := Lib.hid hlm
    generalize (tailT l).length = T at *
    clear hR h hown hw hz hTX ih hB he hlm AL h0 hc hm
    unfold Txt
    go_enter Tryz.func121, Tryz.ntmps121
    go_upto_region 2 with (at_builtin; refine wpList_append_own_string _ rfl _ _ 107 9 rfl base 5 i0 Tryz.underlying107 Tryz.underlying9 hi hz0 hz1 hz2 v xs.length (u8s xs) rfl (HO.out.alloc _) n rfl A1 A2 A3 ?_; intro v1 w1 hown1 hgrow1 _)
    have O1 : Hid (w1.ownsRow base 5 1 v1 (xs ++ n.data.toList).length (u8s (xs ++ n.data.toList))) := Lib.hid (by rw [N1.out, N2.out] at hown1; exact hown1)
    have D1 := Lib.hid ((((Below.refl base w)).alloc hbase _).grown hgrow1 A3 (fun k hk => (HO.out.lt k hk).1))
    have X2 : Hid (HasT w1 w.heap.size #[.string n, .slice p m c]) := Lib.hid ((HasT.new w #[.string n, .slice p m c]).grown hgrow1 (HO.out.alloc _))
    obtain ⟨x1, x2, x3, x4, x5⟩ := X2.out.has.two
    clear hown1 hgrow1
    have W1 := Lib.hid (HW.out.below D1.out hgb)
    obtain ⟨g1, g2, g3, g4⟩ := W1.out
    have hsz1 := D1.out.size
    clear A1 A2 A3
    have A1 : (xs ++ n.data.toList).length + 1 ≤ maxLen := by unfold maxLen; rw [List.length_append, hns]; omega
    have A2 : ((xs ++ n.data.toList).length + 1) * 1 ≤ 140737488355328 := by rw [List.length_append, hns]; omega
    have A3 : base ≤ (w1.alloc (.cells #[.int .u8 40] 5)).heap.size := by simp; omega
    have hlen1 : (xs ++ n.data.toList).length = xs.length + n.size := by rw [List.length_append, hns]
    go_upto_region 5 with (at_builtin; refine wpList_append_own _ rfl _ _ 107 rfl base 5 i0 (.int .u8 0) 1 1 Tryz.underlying107 hi hz0 hz1 hz2 rfl (by decide) _ (xs ++ n.data.toList).length (u8s (xs ++ n.data.toList)) rfl (O1.out.alloc _) ⟨w1.heap.size, 0, none⟩ 1 1 [.int .u8 40] rfl rfl (news0 w1 _ _) (one_u _) A1 A2 A3 ?_; intro v2 w2 hown2 hgrow2 _)
    have O2 : Hid (w2.ownsRow base 5 1 v2 ((xs ++ n.data.toList) ++ [40]).length (u8s ((xs ++ n.data.toList) ++ [40]))) := Lib.hid (by rw [u8s_app, List.length_append]; exact hown2)
    have D2 := Lib.hid ((D1.out.alloc (by omega) _).grown hgrow2 A3 (fun k hk => (O1.out.lt k hk).1))
    have X3 : Hid (HasT w2 w.heap.size #[.string n, .slice p m c]) := Lib.hid ((X2.out.alloc _).grown hgrow2 (O1.out.alloc _))
    have hxs : ((xs ++ n.data.toList) ++ [40]).length = xs.length + n.size + 1 := by rw [List.length_append, hlen1]; rfl
    clear hown2 hgrow2 O1 D1 X2 x1 x2 x3 x4 x5 A1 A2 A3 g1 g2 g3 g4 W1
    generalize (xs ++ n.data.toList) ++ [40] = zs at *
    have W2 := Lib.hid (HW.out.below D2.out hgb)
    obtain ⟨x1, x2, x3, x4, x5⟩ := X3.out.has.two
    have AE : Hid (zs.length + T ≤ 100000001) := Lib.hid (by omega)
    have Z0 : Hid (zs ++ argsK l 0 = zs) := Lib.hid (by rw [F0.out, List.append_nil])
    clear X3 hxs hlen1 N1 N2 hns hnsz hTL hsz1
    go_wp2_with fail
    go_loopw [0, 24] (fun v i wr => ∃ k : Nat, k ≤ m ∧ i = .int .i64 k ∧ Hid (wr.ownsRow base 5 1 v (zs ++ argsK l k).length (u8s (zs ++ argsK l k))) ∧ Hid (Below base w wr)) (fun _ i _ => m - (RowKit.intOf i).toNat)
    case atStart => exact ⟨0, Nat.zero_le _, rfl, by rw [Z0.out]; exact O2, D2⟩
    case round =>
      obtain ⟨k, hk, rfl, hO, hD⟩ := hrel
      have hgk := GK.out k
      have hae := AE.out
      have hsz := hD.out.size
      obtain ⟨g1, g2, g3, g4⟩ := HW.out.below hD.out hgb
      by_cases hlt : k < m
      · obtain ⟨t, b, o, q, d, ht, rfl, hb, c1, c2, hs, hts⟩ := (Row.deep HR.out hD.out HB.out) k (by rw [HM.out]; exact hlt)
        have hgl := GL.out k t ht
        have IT := Lib.hid (IH.out k t ht)
        have HS := Lib.hid hs
        by_cases hk0 : k = 0
        · subst hk0
          rw [Nat.zero_mul, Nat.add_zero] at c1 c2
          have hgl := hgl.1
          have FX : Hid (zs ++ argsK l (0 + 1) = (zs ++ argsK l 0) ++ textT t) := Lib.hid (by rw [F1.out t ht, F0.out, List.append_nil])
          have hzz : (zs ++ argsK l 0).length + (textT t).length ≤ 100000000 := by rw [List.length_append]; omega
          clear ht hs hts hgl hgk hae
          generalize zs ++ argsK l 0 = ys at *
          go_wp2_with fail
          refine (IT.out _ _ _ ys (HW.out.below (hD.out.alloc (by omega) _) hgb) (hO.out.alloc _) (by simp; omega) (HS.out.gr (Gr.alloc _ _) (Nat.le_trans HB.out (by omega))) hzz).mono ?_
          rintro e w5 ⟨v5, rfl, ho5, hd5⟩
          have O5 : Hid (w5.ownsRow base 5 1 v5 (zs ++ argsK l (0 + 1)).length (u8s (zs ++ argsK l (0 + 1)))) := Lib.hid (by rw [FX.out]; exact ho5)
          have D5 := Lib.hid ((hD.out.alloc (by omega) _).trans hd5)
          clear ho5 hd5
          go_wp2_with fail
          go_roundw
          case rel => exact ⟨0 + 1, by omega, by first | rfl | go_num, O5, D5⟩
          case measure => simp [RowKit.intOf]; omega
        · have hk1 : (0 : Int) < k := by omega
          have hgl := hgl.2 (by omega)
          have FX : Hid (zs ++ argsK l (k + 1) = ((zs ++ argsK l k) ++ [44]) ++ textT t) := Lib.hid (by rw [F2.out k t (by omega) ht]; simp)
          have hzz : ((zs ++ argsK l k) ++ [44]).length + (textT t).length ≤ 100000000 := by rw [List.length_append, List.length_append]; simp only [List.length_cons, List.length_nil]; omega
          have A1 : (zs ++ argsK l k).length + 1 ≤ maxLen := by unfold maxLen; rw [List.length_append]; omega
          have A2 : ((zs ++ argsK l k).length + 1) * 1 ≤ 140737488355328 := by rw [List.length_append]; omega
          have A3 : base ≤ ((wr.alloc (.cells #[.string t.nm, .slice q t.args.length d] 24)).alloc (.cells #[.int .u8 44] 5)).heap.size := by simp; omega
          have hgw : 0 < wr.heap.size := g1
          clear ht hts hgl hgk hae hs
          generalize zs ++ argsK l k = ys at *
          go_upto_region 10 with (at_builtin; refine wpList_append_own _ rfl _ _ 107 rfl base 5 i0 (.int .u8 0) 1 1 Tryz.underlying107 hi hz0 hz1 hz2 rfl (by decide) _ ys.length (u8s ys) rfl ((hO.out.alloc _).alloc _) ⟨wr.heap.size + 1, 0, none⟩ 1 1 [.int .u8 44] rfl rfl (newsA wr _ _ _) (one_u _) A1 A2 A3 ?_; intro v4 w4 hown4 hgrow4 _)
          have O4 : Hid (w4.ownsRow base 5 1 v4 (ys ++ [44]).length (u8s (ys ++ [44]))) := Lib.hid (by rw [u8s_app, List.length_append]; exact hown4)
          have D4 := Lib.hid (((hD.out.alloc (by omega) _).alloc (by simp; omega) _).grown hgrow4 A3 (fun k hk => (hO.out.lt k hk).1))
          have X4 : Hid (HasT w4 wr.heap.size #[.string t.nm, .slice q t.args.length d]) := Lib.hid (((HasT.new wr _).alloc _).grown hgrow4 ((hO.out.alloc _).alloc _))
          have D4r : Hid (Below base wr w4) := Lib.hid ((((Below.refl base wr).alloc (by omega) _).alloc (by simp; omega) _).grown hgrow4 A3 (fun k hk => (hO.out.lt k hk).1))
          obtain ⟨y1, y2, y3, y4, y5⟩ := X4.out.has.two
          have hsz4 := D4.out.size
          clear hown4 hgrow4 A1 A2 A3
          go_wp2_with fail
          refine (IT.out _ _ _ _ (HW.out.below D4.out hgb) O4.out (by omega) (HS.out.deep D4r.out HB.out) hzz).mono ?_
          rintro e w5 ⟨v5, rfl, ho5, hd5⟩
          have O5 : Hid (w5.ownsRow base 5 1 v5 (zs ++ argsK l (k + 1)).length (u8s (zs ++ argsK l (k + 1)))) := Lib.hid (by rw [FX.out]; exact ho5)
          have D5 := Lib.hid (D4.out.trans hd5)
          clear ho5 hd5
          go_wp2_with fail
          go_roundw
          case rel => exact ⟨k + 1, by omega, by go_num, O5, D5⟩
          case measure => simp [RowKit.intOf]; omega
      · obtain rfl : k = m := by omega
        have A1 : (zs ++ argsK l k).length + 1 ≤ maxLen := by unfold maxLen; rw [List.length_append]; omega
        have A2 : ((zs ++ argsK l k).length + 1) * 1 ≤ 140737488355328 := by rw [List.length_append]; omega
        have A3 : base ≤ (wr.alloc (.cells #[.int .u8 41] 5)).heap.size := by simp; omega
        clear hgk hae
        generalize zs ++ argsK l k = ys at *
        go_wp2_with (at_builtin; refine wpList_append_own _ rfl _ _ 107 rfl base 5 i0 (.int .u8 0) 1 1 Tryz.underlying107 hi hz0 hz1 hz2 rfl (by decide) _ ys.length (u8s ys) rfl (hO.out.alloc _) ⟨wr.heap.size, 0, none⟩ 1 1 [.int .u8 41] rfl rfl (news0 wr _ _) (one_u _) A1 A2 A3 ?_; intro v4 w4 hown4 hgrow4 _)
        have O4 : Hid (w4.ownsRow base 5 1 v4 (ys ++ [41]).length (u8s (ys ++ [41]))) := Lib.hid (by rw [u8s_app, List.length_append]; exact hown4)
        have D4 := Lib.hid ((hD.out.alloc (by omega) _).grown hgrow4 A3 (fun k hk => (hO.out.lt k hk).1))
        clear hown4 hgrow4
        go_wp2_with fail
        go_ret
        exact ⟨_, rfl, by rw [HTX.out]; exact O4.out, D4.out⟩
theorem txt_any (t : Tm) : TxtT t := by
  induction t using Tm.ind with
  | h n l ih => exact txt_mk n l ih
theorem conv (w : World) (base g n cap : Nat) (l : List UInt8) (hl : l.length = n) (h : w.ownsRow base 5 1 (.slice (some ⟨g, 0, none⟩) n cap) n (u8s l)) :
    (convert 107 9 (.slice (some ⟨g, 0, none⟩) n cap)).run Tryz.prog w = .ok (.string ⟨l.toArray⟩) w := by
  subst hl
  refine run_convert_bytes_back w 107 9 5 ⟨g, 0, none⟩ cap l Tryz.underlying107 Tryz.underlying5 Tryz.underlying9 (fun j hj => ?_)
  have e : (⟨g, 0, none⟩ : Addr).add j = ⟨g, j, none⟩ := by simp [Addr.add]; omega
  rw [e, h.cellAt j (by omega)]
  unfold u8s
  rw [List.getElem?_map, List.getElem?_eq_getElem hj]
  rfl
theorem conv0 (w : World) : (convert 107 9 (.slice none 0 0)).run Tryz.prog w = .ok (.string ⟨#[]⟩) w := by kernel_rfl
theorem conv_row {w : World} {base : Nat} {l : List UInt8} {v : Value} (h : w.ownsRow base 5 1 v l.length (u8s l)) : (convert 107 9 v).run Tryz.prog w = .ok (.string ⟨l.toArray⟩) w := by
  have h' := h
  rcases h.2 with ⟨rfl, hz⟩ | ⟨g, cap, cur, rfl, _⟩
  · have : l = [] := List.eq_nil_of_length_eq_zero hz
    subst this
    exact conv0 w
  · exact conv w base g _ cap l rfl h'
set_option maxHeartbeats 1600000 in
theorem text_any (t : Tm) (B : Nat) (w : World) (sv : Value) (hw : Wd w) (hB : B ≤ w.heap.size) (h : SlIn (· < B) w t.args sv) (hz : (textT t).length ≤ 100000000) :
    Calls Tryz.prog 87 #[.agg #[.string t.nm, sv]] w fun e w' => e = .returned (.string ⟨(textT t).toArray⟩) ∧ Below w.heap.size w w' := by
  obtain ⟨p, c, rfl⟩ := h.form
  have K := Lib.hid (txt_any t B (w.alloc (.cells #[.string t.nm, .slice p t.args.length c] 24)) (w.heap.size + 1) (.slice none 0 0) (.slice p t.args.length c) [] (hw.below (below_alloc w _) hw.1) (by have := hw.1; omega) ⟨rfl, Or.inl ⟨rfl, rfl⟩⟩ (by simp) (by omega) (h.gr (Gr.alloc _ _) hB) (by simpa using hz))
  rw [List.nil_append] at K
  have CV := Lib.hid (fun (w : World) (base : Nat) (v : Value) (h : w.ownsRow base 5 1 v (textT t).length (u8s (textT t))) => conv_row h)
  generalize textT t = X at *
  clear h hw
  go_enter Tryz.func87, Tryz.ntmps87
  go_wp2_with fail
  refine K.out.mono ?_
  rintro e w2 ⟨v2, rfl, ho, hd⟩
  have hcv := CV.out _ _ _ ho
  have D2 := Lib.hid ((below_alloc w (.cells #[.string t.nm, .slice p t.args.length c] 24)).trans (hd.mono (by omega)))
  clear ho hd
  go_wp2_with fail
  go_ret
  exact ⟨rfl, D2.out⟩
end TermT
end Go.Proofs.YtdkpflojdnkbnaaGreatDoor
