/- appendLeaves: the names of the parts without arguments, appended to a row of the call's own. Condition: at most a million parts. -/
import Derived.Test.YtihbnonbhelbmaaGreatDoorTermU
namespace Go.Proofs.YtihbnonbhelbmaaGreatDoor
open Go Go.RowKit
namespace TermL
open LexM TermM TermI Kit TermN TermU
def strs (xs : List ByteArray) : List Value := xs.map Value.string
theorem strs_len (xs : List ByteArray) : (strs xs).length = xs.length := by simp [strs]
theorem leavesT_arg (t : Tm) : leavesT t = if t.args.isEmpty then [t.nm] else leavesL t.args := by cases t; rfl
theorem leaves_len (t : Tm) : (leavesT t).length ≤ sizeT t := by
  induction t using Tm.ind with
  | h n l ih =>
    have hL : (leavesL l).length ≤ sizeL l := by
      induction l with
      | nil => simp [leavesL]
      | cons a l ihl =>
        have h1 := ih a (by simp)
        have h2 := ihl (fun x hx => ih x (by simp [hx]))
        simp only [leavesL, sizeL, List.length_append]
        omega
    simp only [leavesT, sizeT]
    split
    · simp
    · omega
theorem leavesL_len (l : List Tm) : (leavesL l).length ≤ sizeL l := by
  induction l with
  | nil => simp [leavesL]
  | cons a l ih =>
    have h1 := leaves_len a
    simp only [leavesL, sizeL, List.length_append]
    omega
theorem leaves_next (l : List Tm) (k : Nat) (t : Tm) (h : l[k]? = some t) : leavesL (l.take (k + 1)) = leavesL (l.take k) ++ leavesT t := by
  rw [take_get l k t h, leavesL_app]; simp [leavesL]
/-- What appendLeaves leaves. -/
def Lvs (base : Nat) (ys : List ByteArray) (w : World) (e : Ending) (w' : World) : Prop :=
  ∃ v', e = .returned v' ∧ w'.ownsRow base 9 1 v' ys.length (strs ys) ∧ Below base w w'
def LvsT (l : List Tm) : Prop := ∀ (B : Nat) (w : World) (base : Nat) (v sv : Value) (xs : List ByteArray), w.ownsRow base 9 1 v xs.length (strs xs) → base ≤ w.heap.size → B ≤ base → SlIn (· < B) w l sv → xs.length + sizeL l ≤ 3000000 →
  Calls Tryz.prog 86 #[v, sv] w (Lvs base (xs ++ leavesL l) w)
theorem news1' (w : World) (a : Value) (t : TypeId) (o : Obj) : ∀ j u, [a][j]? = some u → ((w.alloc o).alloc (.cells #[a] t)).cell? ((⟨w.heap.size + 1, 0, none⟩ : Addr).add j) = some u := by
  have h : ∀ j u, [a][j]? = some u → ((w.alloc o).alloc (.cells #[a] t)).cell? ((⟨(w.alloc o).heap.size, 0, none⟩ : Addr).add j) = some u := World.news_of_block (heap_alloc_new (w.alloc o) _)
  rwa [World.size_alloc] at h
theorem one1 (a : ByteArray) : ∀ u ∈ [Value.string a], u.oneCell' = true := by
  intro u hu
  obtain rfl := List.mem_singleton.1 hu
  rfl
theorem Tryz.info9s : (Tryz.prog.info? 9).map (fun i => (i.zero, i.size, i.bytes)) = some (some (.string ⟨#[]⟩), 1, 16) := by kernel_rfl
set_option maxRecDepth 100000 in
set_option maxHeartbeats 3200000 in
theorem lvs_list (l : List Tm) (ih : ∀ t ∈ l, LvsT t.args) : LvsT l := by
  obtain ⟨i0, hi, hz0, hz1, hz2⟩ := info_parts Tryz.info9s
  intro B w base v sv xs hown hbase hB h hz
  obtain ⟨p, c, rfl, _, hc, hm, hR⟩ := h.row
  have hlf : l.length ≤ 3000000 := by have := len_size l; omega
  have HR := Lib.hid hR
  have HB := Lib.hid hB
  have NX : Hid (∀ k t, l[k]? = some t → leavesL (l.take (k + 1)) = leavesL (l.take k) ++ leavesT t) := Lib.hid (fun k t h => leaves_next l k t h)
  have LN : Hid (∀ k, xs.length + (leavesL (l.take k)).length ≤ 3000000) := Lib.hid (fun k => by
    have h1 := leavesL_len (l.take k)
    have h2 := sizeL_take l k
    omega)
  have IH : Hid (∀ k t, l[k]? = some t → ∀ (w' : World) (v sv : Value), w'.ownsRow base 9 1 v (xs ++ leavesL (l.take k)).length (strs (xs ++ leavesL (l.take k))) → base ≤ w'.heap.size → SlIn (· < B) w' t.args sv →
      Calls Tryz.prog 86 #[v, sv] w' (Lvs base ((xs ++ leavesL (l.take k)) ++ leavesL t.args) w')) := Lib.hid (fun k t hk w' v sv ho hb hs => by
    refine ih t (List.mem_of_getElem? hk) B w' base v sv _ ho hb hB hs ?_
    have e := size_next l k t hk
    have h1 := sizeL_take l (k + 1)
    have h2 := leavesL_len (l.take k)
    have h3 : sizeL t.args + 1 = sizeT t := by cases t; simp [Tm.args, sizeT]
    rw [List.length_append]
    omega)
  have FL : Hid (leavesL (l.take l.length) = leavesL l) := Lib.hid (by simp)
  have HO := Lib.hid hown
  have X0 : Hid (xs ++ leavesL (l.take 0) = xs) := Lib.hid (by simp [leavesL])
  have LT := Lib.hid (fun t => leavesT_arg t)
  generalize hlm : l.length = m at *
  have HM := Lib.hid hlm
  clear ih hR h hown hlm hz hB hc hm
  unfold Lvs
  go_enter Tryz.func86, Tryz.ntmps86
  go_wp2_with fail
  go_loopw [0, 9] (fun v i wr => ∃ k : Nat, k ≤ m ∧ i = .int .i64 k ∧ Hid (wr.ownsRow base 9 1 v (xs ++ leavesL (l.take k)).length (strs (xs ++ leavesL (l.take k)))) ∧ Hid (Below base w wr)) (fun _ i _ => m - (intOf i).toNat)
  case atStart => exact ⟨0, Nat.zero_le _, rfl, by rw [X0.out]; exact HO, Lib.hid (Below.refl _ _)⟩
  case round =>
    obtain ⟨k, hk, rfl, hO, hD⟩ := hrel
    have hln := LN.out k
    by_cases hlt : k < m
    · obtain ⟨t, b, o, q, d, ht, rfl, hb, c1, c2, hs, hts⟩ := (Row.deep HR.out hD.out HB.out) k (by rw [HM.out]; exact hlt)
      have hN := NX.out k t ht
      have hLT := LT.out t
      have IT := Lib.hid (IH.out k t ht)
      have HS := Lib.hid hs
      have hsz := hD.out.size
      clear ht hs
      obtain ⟨tn, ta⟩ := t
      dsimp only [Tm.nm, Tm.args] at c1 c2 hLT hts IT HS
      cases ta with
      | nil =>
        simp only [List.isEmpty_nil, if_true] at hLT
        have NW : Hid (xs ++ leavesL (l.take (k + 1)) = (xs ++ leavesL (l.take k)) ++ [tn]) := Lib.hid (by rw [hN, hLT, List.append_assoc])
        have A1 : (xs ++ leavesL (l.take k)).length + 1 ≤ maxLen := by unfold maxLen; rw [List.length_append]; omega
        have A2 : ((xs ++ leavesL (l.take k)).length + 1) * 16 ≤ 140737488355328 := by rw [List.length_append]; omega
        have A3 : base ≤ ((wr.alloc (.cells #[.string tn, .slice q 0 d] 27)).alloc (.cells #[.string tn] 9)).heap.size := by simp; omega
        clear hN hLT hln
        generalize xs ++ leavesL (l.take k) = ys at *
        dsimp only [List.length_nil] at c2
        go_wp2_with (at_builtin; refine wpList_append_own _ rfl _ _ 73 rfl base 9 i0 (.string ⟨#[]⟩) 1 16 Tryz.underlying73 hi hz0 hz1 hz2 rfl (by decide) _ ys.length (strs ys) rfl ((hO.out.alloc _).alloc _) ⟨wr.heap.size + 1, 0, none⟩ 1 1 [.string tn] rfl rfl (news1' wr _ _ _) (one1 _) A1 A2 A3 ?_; intro v1 w1 hown1 hgrow1 _)
        have O2 : Hid (w1.ownsRow base 9 1 v1 (xs ++ leavesL (l.take (k + 1))).length (strs (xs ++ leavesL (l.take (k + 1))))) := Lib.hid (by
          rw [NW.out]
          unfold strs at hown1 ⊢
          rw [List.map_append, List.length_append]
          exact hown1)
        have D2 := Lib.hid (((hD.out.alloc (by omega) _).alloc (by simp; omega) _).grown hgrow1 (by simp; omega) (fun k hk => (hO.out.lt k hk).1))
        clear hown1 hgrow1
        go_wp2_with fail
        go_roundw
        case rel => exact ⟨k + 1, by omega, by go_num, O2, D2⟩
        case measure => simp [intOf]; omega
      | cons a r =>
        simp only [List.isEmpty_cons] at hLT
        have NW : Hid (xs ++ leavesL (l.take (k + 1)) = (xs ++ leavesL (l.take k)) ++ leavesL (a :: r)) := Lib.hid (by rw [hN, hLT, List.append_assoc]; rfl)
        clear hN hLT hln
        have hnz : (((a :: r).length : Int) == 0) = false := by simp; omega
        generalize (a :: r) = ar at *
        go_wp2_with fail
        refine (IT.out _ _ _ (hO.out.alloc _) (by simp; omega) (HS.out.gr (Gr.alloc _ _) (Nat.le_trans HB.out (by omega)))).mono ?_
        rintro e w2 ⟨v2, rfl, ho2, hd2⟩
        have O2 : Hid (w2.ownsRow base 9 1 v2 (xs ++ leavesL (l.take (k + 1))).length (strs (xs ++ leavesL (l.take (k + 1))))) := Lib.hid (by rw [NW.out]; exact ho2)
        have D2 := Lib.hid ((hD.out.alloc (by omega) _).trans hd2)
        clear ho2 hd2
        go_wp2_with fail
        go_roundw
        case rel => exact ⟨k + 1, by omega, by go_num, O2, D2⟩
        case measure => simp [intOf]; omega
    · obtain rfl : k = m := by omega
      have hO2 := hO.out
      rw [FL.out] at hO2
      have hO3 := Lib.hid hO2
      clear hO2 hln
      go_wp2_with fail
      go_ret
      exact ⟨_, rfl, hO3.out, hD.out⟩
theorem lvs_args (t : Tm) : LvsT t.args := by
  induction t using Tm.ind with
  | h n l ih => exact lvs_list l ih
theorem lvs_any (l : List Tm) : LvsT l := lvs_list l (fun t _ => lvs_args t)
end TermL
end Go.Proofs.YtihbnonbhelbmaaGreatDoor
