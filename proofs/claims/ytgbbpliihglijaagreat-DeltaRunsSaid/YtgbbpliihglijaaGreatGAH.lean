/- Texts laid together: TermL; TermE; TermF. Their own heads stand before each. -/
import Derived.Test.YtgbbpliihglijaaGreatGAE
import Derived.Test.YtgbbpliihglijaaGreatGAC
import Derived.Maps.Own
import Derived.Maps.Views
import Derived.Maps.OwnOps
import Derived.Deep.DeepCutAuto
/- appendLeaves: the names of the parts without arguments, appended to a row of the call's own. Condition: at most a million parts. -/
namespace Go.Proofs.YtgbbpliihglijaaGreat
open Go Go.RowKit
namespace TermL
open LexM TermM TermI Kit TermN TermU
def strs (xs : List ByteArray) : List Value := xs.map Value.string
theorem strs_len (xs : List ByteArray) : (strs xs).length = xs.length := by simp [strs]
theorem leavesT_arg (t : Tm) : leavesT t = if t.args.isEmpty then [t.nm] else leavesL t.args := by cases t; rfl
theorem leaves_len (t : Tm) : (leavesT t).length ≤ sizeT t := by
  induction t using Tm.ind with
  | h n l ih =>
    have hL : (leavesL l).length ≤ sizeL l := by
      induction l with
      | nil => simp [leavesL]
      | cons a l ihl =>
        have h1 := ih a (by simp)
        have h2 := ihl (fun x hx => ih x (by simp [hx]))
        simp only [leavesL, sizeL, List.length_append]
        omega
    simp only [leavesT, sizeT]
    split
    · simp
    · omega
theorem leavesL_len (l : List Tm) : (leavesL l).length ≤ sizeL l := by
  induction l with
  | nil => simp [leavesL]
  | cons a l ih =>
    have h1 := leaves_len a
    simp only [leavesL, sizeL, List.length_append]
    omega
theorem leaves_next (l : List Tm) (k : Nat) (t : Tm) (h : l[k]? = some t) : leavesL (l.take (k + 1)) = leavesL (l.take k) ++ leavesT t := by
  rw [take_get l k t h, leavesL_app]; simp [leavesL]
/-- What appendLeaves leaves. -/
def Lvs (base : Nat) (ys : List ByteArray) (w : World) (e : Ending) (w' : World) : Prop :=
  ∃ v', e = .returned v' ∧ w'.ownsRow base 9 1 v' ys.length (strs ys) ∧ Below base w w'
def LvsT (l : List Tm) : Prop := ∀ (B : Nat) (w : World) (base : Nat) (v sv : Value) (xs : List ByteArray), w.ownsRow base 9 1 v xs.length (strs xs) → base ≤ w.heap.size → B ≤ base → SlIn (· < B) w l sv → xs.length + sizeL l ≤ 3000000 →
  Calls Tryz.prog 86 #[v, sv] w (Lvs base (xs ++ leavesL l) w)
theorem news1' (w : World) (a : Value) (t : TypeId) (o : Obj) : ∀ j u, [a][j]? = some u → ((w.alloc o).alloc (.cells #[a] t)).cell? ((⟨w.heap.size + 1, 0, none⟩ : Addr).add j) = some u := by
  have h : ∀ j u, [a][j]? = some u → ((w.alloc o).alloc (.cells #[a] t)).cell? ((⟨(w.alloc o).heap.size, 0, none⟩ : Addr).add j) = some u := World.news_of_block (heap_alloc_new (w.alloc o) _)
  rwa [World.size_alloc] at h
theorem one1 (a : ByteArray) : ∀ u ∈ [Value.string a], u.oneCell' = true := by
  intro u hu
  obtain rfl := List.mem_singleton.1 hu
  rfl
theorem Tryz.info9s : (Tryz.prog.info? 9).map (fun i => (i.zero, i.size, i.bytes)) = some (some (.string ⟨#[]⟩), 1, 16) := by kernel_rfl
set_option maxRecDepth 100000 in
set_option maxHeartbeats 3200000 in
theorem lvs_list (l : List Tm) (ih : ∀ t ∈ l, LvsT t.args) : LvsT l := by
  obtain ⟨i0, hi, hz0, hz1, hz2⟩ := info_parts Tryz.info9s
  intro B w base v sv xs hown hbase hB h hz
  obtain ⟨p, c, rfl, _, hc, hm, hR⟩ := h.row
  have hlf : l.length ≤ 3000000 := by have := len_size l; omega
  have HR := Lib.hid hR
  have HB := Lib.hid hB
  have NX : Hid (∀ k t, l[k]? = some t → leavesL (l.take (k + 1)) = leavesL (l.take k) ++ leavesT t) := Lib.hid (fun k t h => leaves_next l k t h)
  have LN : Hid (∀ k, xs.length + (leavesL (l.take k)).length ≤ 3000000) := Lib.hid (fun k => by
    have h1 := leavesL_len (l.take k)
    have h2 := sizeL_take l k
    omega)
  have IH : Hid (∀ k t, l[k]? = some t → ∀ (w' : World) (v sv : Value), w'.ownsRow base 9 1 v (xs ++ leavesL (l.take k)).length (strs (xs ++ leavesL (l.take k))) → base ≤ w'.heap.size → SlIn (· < B) w' t.args sv →
      Calls Tryz.prog 86 #[v, sv] w' (Lvs base ((xs ++ leavesL (l.take k)) ++ leavesL t.args) w')) := Lib.hid (fun k t hk w' v sv ho hb hs => by
    refine ih t (List.mem_of_getElem? hk) B w' base v sv _ ho hb hB hs ?_
    have e := size_next l k t hk
    have h1 := sizeL_take l (k + 1)
    have h2 := leavesL_len (l.take k)
    have h3 : sizeL t.args + 1 = sizeT t := by cases t; simp [Tm.args, sizeT]
    rw [List.length_append]
    omega)
  have FL : Hid (leavesL (l.take l.length) = leavesL l) := Lib.hid (by simp)
  have HO := Lib.hid hown
  have X0 : Hid (xs ++ leavesL (l.take 0) = xs) := Lib.hid (by simp [leavesL])
  have LT := Lib.hid (fun t => leavesT_arg t)
  generalize hlm : l.length = m at *
  have HM := Lib.hid hlm
  clear ih hR h hown hlm hz hB hc hm
  unfold Lvs
  go_enter Tryz.func86, Tryz.ntmps86
  go_wp2_with fail
  go_loopw [0, 9] (fun v i wr => ∃ k : Nat, k ≤ m ∧ i = .int .i64 k ∧ Hid (wr.ownsRow base 9 1 v (xs ++ leavesL (l.take k)).length (strs (xs ++ leavesL (l.take k)))) ∧ Hid (Below base w wr)) (fun _ i _ => m - (intOf i).toNat)
  case atStart => exact ⟨0, Nat.zero_le _, rfl, by rw [X0.out]; exact HO, Lib.hid (Below.refl _ _)⟩
  case round =>
    obtain ⟨k, hk, rfl, hO, hD⟩ := hrel
    have hln := LN.out k
    by_cases hlt : k < m
    · obtain ⟨t, b, o, q, d, ht, rfl, hb, c1, c2, hs, hts⟩ := (Row.deep HR.out hD.out HB.out) k (by rw [HM.out]; exact hlt)
      have hN := NX.out k t ht
      have hLT := LT.out t
      have IT := Lib.hid (IH.out k t ht)
      have HS := Lib.hid hs
      have hsz := hD.out.size
      clear ht hs
      obtain ⟨tn, ta⟩ := t
      dsimp only [Tm.nm, Tm.args] at c1 c2 hLT hts IT HS
      cases ta with
      | nil =>
        simp only [List.isEmpty_nil, if_true] at hLT
        have NW : Hid (xs ++ leavesL (l.take (k + 1)) = (xs ++ leavesL (l.take k)) ++ [tn]) := Lib.hid (by rw [hN, hLT, List.append_assoc])
        have A1 : (xs ++ leavesL (l.take k)).length + 1 ≤ maxLen := by unfold maxLen; rw [List.length_append]; omega
        have A2 : ((xs ++ leavesL (l.take k)).length + 1) * 16 ≤ 140737488355328 := by rw [List.length_append]; omega
        have A3 : base ≤ ((wr.alloc (.cells #[.string tn, .slice q 0 d] 58)).alloc (.cells #[.string tn] 9)).heap.size := by simp; omega
        clear hN hLT hln
        generalize xs ++ leavesL (l.take k) = ys at *
        dsimp only [List.length_nil] at c2
        go_wp2_with (at_builtin; refine wpList_append_own _ rfl _ _ 106 rfl base 9 i0 (.string ⟨#[]⟩) 1 16 Tryz.underlying106 hi hz0 hz1 hz2 rfl (by decide) _ ys.length (strs ys) rfl ((hO.out.alloc _).alloc _) ⟨wr.heap.size + 1, 0, none⟩ 1 1 [.string tn] rfl rfl (news1' wr _ _ _) (one1 _) A1 A2 A3 ?_; intro v1 w1 hown1 hgrow1 _)
        have O2 : Hid (w1.ownsRow base 9 1 v1 (xs ++ leavesL (l.take (k + 1))).length (strs (xs ++ leavesL (l.take (k + 1))))) := Lib.hid (by
          rw [NW.out]
          unfold strs at hown1 ⊢
          rw [List.map_append, List.length_append]
          exact hown1)
        have D2 := Lib.hid (((hD.out.alloc (by omega) _).alloc (by simp; omega) _).grown hgrow1 (by simp; omega) (fun k hk => (hO.out.lt k hk).1))
        clear hown1 hgrow1
        go_wp2_with fail
        go_roundw
        case rel => exact ⟨k + 1, by omega, by go_num, O2, D2⟩
        case measure => simp [intOf]; omega
      | cons a r =>
        simp only [List.isEmpty_cons] at hLT
        have NW : Hid (xs ++ leavesL (l.take (k + 1)) = (xs ++ leavesL (l.take k)) ++ leavesL (a :: r)) := Lib.hid (by rw [hN, hLT, List.append_assoc]; rfl)
        clear hN hLT hln
        have hnz : (((a :: r).length : Int) == 0) = false := by simp; omega
        generalize (a :: r) = ar at *
        go_wp2_with fail
        refine (IT.out _ _ _ (hO.out.alloc _) (by simp; omega) (HS.out.gr (Gr.alloc _ _) (Nat.le_trans HB.out (by omega)))).mono ?_
        rintro e w2 ⟨v2, rfl, ho2, hd2⟩
        have O2 : Hid (w2.ownsRow base 9 1 v2 (xs ++ leavesL (l.take (k + 1))).length (strs (xs ++ leavesL (l.take (k + 1))))) := Lib.hid (by rw [NW.out]; exact ho2)
        have D2 := Lib.hid ((hD.out.alloc (by omega) _).trans hd2)
        clear ho2 hd2
        go_wp2_with fail
        go_roundw
        case rel => exact ⟨k + 1, by omega, by go_num, O2, D2⟩
        case measure => simp [intOf]; omega
    · obtain rfl : k = m := by omega
      have hO2 := hO.out
      rw [FL.out] at hO2
      have hO3 := Lib.hid hO2
      clear hO2 hln
      go_wp2_with fail
      go_ret
      exact ⟨_, rfl, hO3.out, hD.out⟩
theorem lvs_args (t : Tm) : LvsT t.args := by
  induction t using Tm.ind with
  | h n l ih => exact lvs_list l ih
theorem lvs_any (l : List Tm) : LvsT l := lvs_list l (fun t _ => lvs_args t)
end TermL
end Go.Proofs.YtgbbpliihglijaaGreat
/- Vars: the variables among the leaves, each once, in the order of their first occurrence. Condition: at most a million parts. -/
namespace Go.Proofs.YtgbbpliihglijaaGreat
open Go Go.RowKit Go.Maps Go.WideMaps
namespace TermE
open LexM TermM TermI Kit TermN TermU TermL TermC
/-- Is the string among these? -/
def hasB (M : List ByteArray) (s : ByteArray) : Bool := M.any fun x => x.data.toList == s.data.toList
def addV (M : List ByteArray) (s : ByteArray) : List ByteArray := if varB s = true ∧ hasB M s = false then M ++ [s] else M
def varsOf (xs : List ByteArray) : List ByteArray := xs.foldl addV []
theorem varsOf_next (xs : List ByteArray) (k : Nat) (s : ByteArray) (h : xs[k]? = some s) : varsOf (xs.take (k + 1)) = addV (varsOf (xs.take k)) s := by
  unfold varsOf
  rw [take_get xs k s h, List.foldl_append]
  rfl
theorem varsOf_len (xs : List ByteArray) : (varsOf xs).length ≤ xs.length := by
  have : ∀ (xs M : List ByteArray), (xs.foldl addV M).length ≤ M.length + xs.length := by
    intro xs
    induction xs with
    | nil => intro M; simp
    | cons a r ih =>
      intro M
      have h := ih (addV M a)
      have h2 : (addV M a).length ≤ M.length + 1 := by unfold addV; split <;> simp
      simp only [List.foldl_cons, List.length_cons]
      omega
  have := this xs []
  simpa [varsOf] using this
/-- What the set of the variables seen so far reads as. -/
def Dof (M : List ByteArray) : DataW Unit := M.foldl (fun D s => D.put (.string s.data.toList) (.lit (.bool true))) (.map [])
theorem Dof_snoc (M : List ByteArray) (s : ByteArray) : Dof (M ++ [s]) = (Dof M).put (.string s.data.toList) (.lit (.bool true)) := by simp [Dof]
theorem law : Keyed Tryz.prog 9 := string_keyed Tryz.underlying9
theorem isKey (s : ByteArray) (hs : s.size ≤ maxLen) : WideAt.IsKeyLit (.string s.data.toList) := law.key (keyOf_string_mk Tryz.underlying9 hs)
theorem at_fold (s : ByteArray) : ∀ (M : List ByteArray) (D : DataW Unit), IsMap D → (∀ x ∈ M, x.size ≤ maxLen) → (M.foldl (fun D s => D.put (.string s.data.toList) (.lit (.bool true))) D).atKey (.string s.data.toList) (.lit (.bool false)) = if hasB M s = true then .lit (.bool true) else D.atKey (.string s.data.toList) (.lit (.bool false))
  | [], D, _, _ => rfl
  | a :: M, D, hD, hz => by
    rw [List.foldl_cons, at_fold s M _ (hD.put _ _) (fun x hx => hz x (by simp [hx]))]
    unfold hasB
    rw [List.any_cons]
    by_cases h : M.any (fun x => x.data.toList == s.data.toList) = true
    · rw [if_pos h, if_pos (by rw [h, Bool.or_true])]
    · rw [if_neg h]
      have h' : (M.any fun x => x.data.toList == s.data.toList) = false := by simpa using h
      by_cases ha : a.data.toList = s.data.toList
      · rw [if_pos (by rw [beq_iff_eq.2 ha, Bool.true_or]), ha]
        have hk := isKey a (hz a (by simp))
        rw [ha] at hk
        exact atKey_put_same hD hk _ _
      · rw [if_neg (by rw [h', beq_eq_false_iff_ne.2 ha]; simp)]
        exact atKey_put_other (by intro e; injection e with e; exact ha e.symm) _ _
theorem at_Dof (M : List ByteArray) (s : ByteArray) (hz : ∀ x ∈ M, x.size ≤ maxLen) : (Dof M).atKey (.string s.data.toList) (.lit (.bool false)) = .lit (.bool (hasB M s)) := by
  unfold Dof
  rw [at_fold s M _ isMap_empty hz]
  cases h : hasB M s
  · rw [if_neg (by simp)]; rfl
  · rw [if_pos rfl]
theorem zeroE (w : World) : (zeroValue 4).run Tryz.prog w = .ok (.bool false) w := by kernel_rfl
set_option maxRecDepth 100000 in
theorem look_bool {w : World} {b n : Nat} {M : List ByteArray} (h : w.ownsMap Tryz.prog 9 (plainElem Tryz.prog 4) b n (Dof M)) (hz : ∀ x ∈ M, x.size ≤ maxLen) (s : ByteArray) (hs : s.size ≤ maxLen) :
    (Instr.lookup 95 (.map (some b)) (.string s) false).run Tryz.prog w = .ok (.bool (hasB M s)) w := by
  obtain ⟨v, ps, hrun, hv⟩ := h.lookup law Tryz.underlying95 (zeroE w) (plainElem_bool (H := Unit) Tryz.underlying4 false) (keyOf_string_mk Tryz.underlying9 hs)
  rw [at_Dof M s hz] at hv
  unfold plainElem at hv
  rw [Tryz.underlying4] at hv
  cases v <;> simp at hv
  obtain ⟨hv, _⟩ := hv
  rw [hrun, hv]
theorem names_ok {ok : Nat → Prop} {w : World} {l : List Tm} {v : Value} (h : SlIn ok w l v) : ∀ x ∈ leavesL l, x.size ≤ maxLen := by
  induction h with
  | mk p c l V b o hp hn hc hm h1 h2 ih =>
    intro x hx
    have key : ∀ (l' : List Tm), (∀ t : Tm, t ∈ l' → ∃ i : Nat, l[i]? = some t) → ∀ x ∈ leavesL l', x.size ≤ maxLen := by
      intro l'
      induction l' with
      | nil => intro _ x hx; simp [leavesL] at hx
      | cons a r ihr =>
        intro hl x hx
        simp only [leavesL] at hx
        rcases List.mem_append.1 hx with hx | hx
        · obtain ⟨i, hi⟩ := hl a (by simp)
          rw [leavesT_arg] at hx
          split at hx
          · obtain rfl := List.mem_singleton.1 hx
            exact (h1 i a hi).2.2
          · exact ih i a hi x hx
        · exact ihr (fun t ht => hl t (by simp [ht])) x hx
    exact key l (fun t ht => List.mem_iff_getElem?.1 ht) x hx
end TermE
end Go.Proofs.YtgbbpliihglijaaGreat
/- Vars and Ground of the code. Condition: at most a million parts. -/
namespace Go.Proofs.YtgbbpliihglijaaGreat
open Go Go.RowKit Go.Maps Go.WideMaps
namespace TermF
open LexM TermM TermI Kit TermN TermU TermL TermC TermE
/-- What Vars leaves. -/
def Vrs (ys : List ByteArray) (w : World) (e : Ending) (w' : World) : Prop :=
  ∃ (v' : Value) (base : Nat), e = .returned v' ∧ w'.ownsRow base 9 1 v' ys.length (strs ys) ∧ w.heap.size ≤ base ∧ Below w.heap.size w w'
theorem own_mono {w : World} {base base' : Nat} {e : TypeId} {size n : Nat} {v : Value} {xs : List Value} (h : w.ownsRow base e size v n xs) (hb : base' ≤ base) : w.ownsRow base' e size v n xs := by
  refine ⟨h.1, ?_⟩
  rcases h.2 with h | ⟨g, cap, cur, e1, e2, e3⟩
  · exact Or.inl h
  · exact Or.inr ⟨g, cap, cur, e1, by omega, e3⟩
theorem strs_get (xs : List ByteArray) (k : Nat) (s : ByteArray) (h : xs[k]? = some s) : (strs xs)[k]? = some (.string s) := by
  unfold strs; rw [List.getElem?_map, h]; rfl
/-- An element of a row of strings. -/
theorem row_str {w : World} {base : Nat} {v : Value} {xs : List ByteArray} (h : w.ownsRow base 9 1 v xs.length (strs xs)) {k : Nat} {s : ByteArray} (hk : xs[k]? = some s) : ∃ g cap, v = .slice (some ⟨g, 0, none⟩) xs.length cap ∧ w.cell? ⟨g, k, none⟩ = some (.string s) ∧ base ≤ g ∧ g < w.heap.size := by
  have hlt := (List.getElem?_eq_some_iff.1 hk).1
  have hl := h.lt
  rcases h.2 with ⟨_, e⟩ | ⟨g, cap, cur, rfl, hg, _⟩
  · omega
  · exact ⟨g, cap, rfl, (h.cellAt k (by omega)).trans (strs_get xs k s hk), hg, (hl g rfl).2⟩
theorem row_form {w : World} {base : Nat} {v : Value} {n : Nat} {xs : List Value} (h : w.ownsRow base 9 1 v n xs) : ∃ a c, v = .slice a n c := by
  rcases h.2 with ⟨e, hz⟩ | ⟨g, cap, cur, e, _⟩
  · exact ⟨none, 0, by rw [e, hz]⟩
  · exact ⟨_, cap, e⟩
theorem own_below {w w' : World} {base : Nat} {e : TypeId} {size n : Nat} {v : Value} {xs : List Value} (h : w.ownsRow base e size v n xs) (hb : Below w.heap.size w w') : w'.ownsRow base e size v n xs := by
  have hl := h.lt
  refine ⟨h.1, ?_⟩
  rcases h.2 with h | ⟨g, cap, cur, e1, e2, e3, e4⟩
  · exact Or.inl h
  · exact Or.inr ⟨g, cap, cur, e1, e2, (hb.block g (hl g (by rw [e1]; rfl)).2).trans e3, e4⟩
set_option maxRecDepth 100000 in
set_option maxHeartbeats 3200000 in
theorem vars_any (l : List Tm) (B : Nat) (w : World) (sv : Value) (hB : B ≤ w.heap.size) (h : SlIn (· < B) w l sv) (hz : sizeL l ≤ 1000000) :
    Calls Tryz.prog 75 #[sv] w (Vrs (varsOf (leavesL l)) w) := by
  obtain ⟨i0, hi, hz0, hz1, hz2⟩ := info_parts Tryz.info9s
  have NS := Lib.hid (names_ok h)
  have LL := leavesL_len l
  have CL := Lib.hid (lvs_any l B (w.alloc (.map #[] 0)) (w.heap.size + 1) (.slice none 0 0) sv [] ⟨rfl, Or.inl ⟨rfl, rfl⟩⟩ (by simp) (by omega) (h.gr (Gr.alloc _ _) hB) (by simp; omega))
  have hmm := @run_makeMap Tryz.prog
  have MO : Hid ((w.alloc (.map #[] 0)).ownsMap Tryz.prog 9 (plainElem (H := Unit) Tryz.prog 4) w.heap.size 0 (Dof [])) := Lib.hid (World.ownsMap_made _ _ _ _)
  rw [List.nil_append] at CL
  have VL := varsOf_len (leavesL l)
  have VN : Hid (∀ k s, (leavesL l)[k]? = some s → varsOf ((leavesL l).take (k + 1)) = addV (varsOf ((leavesL l).take k)) s) := Lib.hid (fun k s h => varsOf_next _ k s h)
  have VF : Hid (varsOf ((leavesL l).take (leavesL l).length) = varsOf (leavesL l)) := Lib.hid (by rw [List.take_length])
  have VK : Hid (∀ k, (varsOf ((leavesL l).take k)).length ≤ k) := Lib.hid (fun k => by
    have h1 := varsOf_len ((leavesL l).take k)
    have h2 := List.length_take_le k (leavesL l)
    omega)
  have VZ : Hid (∀ k, ∀ x ∈ varsOf ((leavesL l).take k), x.size ≤ maxLen) := Lib.hid (by
    have gen : ∀ (xs M : List ByteArray), (∀ x ∈ M, x.size ≤ maxLen) → (∀ x ∈ xs, x.size ≤ maxLen) → ∀ x ∈ xs.foldl addV M, x.size ≤ maxLen := by
      intro xs
      induction xs with
      | nil => intro M hM _; exact hM
      | cons a r ih =>
        intro M hM hx
        refine ih (addV M a) ?_ (fun x h => hx x (by simp [h]))
        intro x h
        unfold addV at h
        split at h
        · rcases List.mem_append.1 h with h | h
          · exact hM x h
          · obtain rfl := List.mem_singleton.1 h; exact hx _ (by simp)
        · exact hM x h
    intro k x hx
    exact gen _ [] (fun x h => by simp at h) (fun x h => NS.out x (List.mem_of_mem_take h)) x hx)
  have hnl : (leavesL l).length ≤ 1000000 := by omega
  obtain ⟨p0, c0, rfl⟩ := h.form
  generalize leavesL l = xs at *
  generalize l.length = ml at *
  clear h LL VL
  generalize hxl : xs.length = n at *
  have HN := Lib.hid hxl
  clear hxl
  go_enter Tryz.func75, Tryz.ntmps75
  go_wp2_with fail
  refine CL.out.mono ?_
  rintro e w2 ⟨v9, rfl, ho, hd⟩
  rw [HN.out] at ho
  have D2 := Lib.hid ((below_alloc w (.map #[] 0)).trans (hd.mono (by omega)))
  have M2 := Lib.hid (MO.out.kept (row := none) ⟨hd.os, hd.tape, hd.output, hd.size, fun i hi _ => hd.block i (by simp at hi; omega)⟩ (by simp))
  have O2 := Lib.hid ho
  obtain ⟨a9, c9, rfl⟩ := row_form ho
  have hs2 : w.heap.size < w2.heap.size := by have := hd.size; simp at this; omega
  clear ho hd MO CL hmm
  go_wp2_with fail
  go_loopw [3, 11] (fun v i wr => ∃ k : Nat, k ≤ n ∧ i = .int .i64 k ∧ Hid (wr.ownsRow w2.heap.size 9 1 v (varsOf (xs.take k)).length (strs (varsOf (xs.take k)))) ∧ Hid (wr.ownsMap Tryz.prog 9 (plainElem (H := Unit) Tryz.prog 4) w.heap.size k (Dof (varsOf (xs.take k)))) ∧ Hid (wr.ownsRow (w.heap.size + 1) 9 1 (.slice a9 n c9) n (strs xs)) ∧ Hid (Below w.heap.size w wr) ∧ w2.heap.size ≤ wr.heap.size) (fun _ i _ => n - (intOf i).toNat)
  case atStart => exact ⟨0, Nat.zero_le _, rfl, Lib.hid ⟨rfl, Or.inl ⟨rfl, rfl⟩⟩, M2, O2, D2, Nat.le_refl _⟩
  case round =>
    obtain ⟨k, hk, rfl, hV, hM, hO, hD, hsz⟩ := hrel
    by_cases hlt : k < n
    · obtain ⟨s, hs⟩ : ∃ s, xs[k]? = some s := ⟨xs[k]'(by rw [HN.out]; exact hlt), by simp⟩
      obtain ⟨g, cap, hav, hcell, hgb, hgl⟩ := row_str (xs := xs) (by rw [HN.out]; exact hO.out) hs
      rw [HN.out] at hav
      injection hav with hav1 _ hav2
      subst hav1 hav2
      have hsl : s.size ≤ maxLen := NS.out s (List.mem_of_getElem? hs)
      have LK := look_bool hM.out (VZ.out k) s hsl
      have KV := Lib.hid (fun w => var_any s w hsl)
      have hN := VN.out k s hs
      have hvk := VK.out k
      have HK : keyOf Tryz.prog 9 (.string s) = some (.string s.data.toList) := keyOf_string_mk Tryz.underlying9 hsl
      have A0 : k < maxLen := by unfold maxLen; omega
      unfold addV at hN
      have hvb : varL s.data.toList = varB s := rfl
      rw [hvb] at KV
      clear hs hvb
      cases hb : varB s
      · rw [hb, if_neg (by simp)] at hN
        have HNN := Lib.hid hN
        rw [hb] at KV
        clear hN LK
        go_wp2_with (go_at_call 87; refine (KV.out _).mono ?_; rintro e w' ⟨rfl, rfl⟩)
        go_roundw
        case rel => exact ⟨k + 1, by omega, by go_num, by rw [HNN.out]; exact hV, Lib.hid (by rw [HNN.out]; exact hM.out.mono (by omega)), hO, hD, hsz⟩
        case measure => simp [intOf]; omega
      · rw [hb] at hN KV
        cases hh : hasB (varsOf (xs.take k)) s
        · rw [hh, if_pos ⟨rfl, rfl⟩] at hN
          have HNN := Lib.hid hN
          rw [hh] at LK
          have D0 := Lib.hid (Dof_snoc (varsOf (xs.take k)) s)
          have A1 : (varsOf (xs.take k)).length + 1 ≤ maxLen := by unfold maxLen; omega
          have A2 : ((varsOf (xs.take k)).length + 1) * 16 ≤ 140737488355328 := by omega
          have hV0 := hV
          clear hN hvk
          generalize varsOf (xs.take k) = M at *
          go_upto_region 8 with (first | (go_at_call 87; refine (KV.out _).mono ?_; rintro e w' ⟨rfl, rfl⟩) | (at_mapUpdate; refine wpList_mapUpdate_own _ rfl _ _ _ 95 rfl 9 4 law Tryz.underlying95 _ w.heap.size k _ rfl hM.out A0 _ _ _ rfl rfl HK _ [] (plainElem_bool (H := Unit) Tryz.underlying4 true) ?_; intro w3 hown3 hgrow3))
          have M3 := Lib.hid hown3
          have V3 := Lib.hid (hV0.out.kept hgrow3 (Or.inr (fun e => by have := (hV0.out.lt _ e).1; omega)))
          have O3 := Lib.hid (hO.out.kept hgrow3 (Or.inr (fun e => by have := (hO.out.lt _ e).1; omega)))
          have D3 := Lib.hid (hD.out.grown hgrow3 hD.out.size (fun j hj => by cases hj; exact Nat.le_refl _))
          have hsz3 : w2.heap.size ≤ w3.heap.size := Nat.le_trans hsz hgrow3.size
          have A3 : w2.heap.size ≤ (w3.alloc (.cells #[.string s] 9)).heap.size := by simp; omega
          clear hown3 hgrow3
          go_wp2_with (at_builtin; refine wpList_append_own _ rfl _ _ 106 rfl w2.heap.size 9 i0 (.string ⟨#[]⟩) 1 16 Tryz.underlying106 hi hz0 hz1 hz2 rfl (by decide) _ M.length (strs M) rfl (V3.out.alloc _) ⟨w3.heap.size, 0, none⟩ 1 1 [.string s] rfl rfl (World.news_of_block (heap_alloc_new w3 _)) (one1 _) A1 A2 A3 ?_; intro v4 w4 hown4 hgrow4 _)
          have M4 := Lib.hid ((M3.out.alloc (.cells #[.string s] 9)).kept hgrow4 (fun e => by have := (V3.out.lt _ e.symm).1; omega))
          have V4 : Hid (w4.ownsRow w2.heap.size 9 1 v4 (M ++ [s]).length (strs (M ++ [s]))) := Lib.hid (by
            unfold strs at hown4 ⊢
            rw [List.map_append, List.length_append]
            exact hown4)
          have O4 := Lib.hid ((O3.out.alloc (.cells #[.string s] 9)).kept hgrow4 (Or.inr (fun e => by
            have h1 := (O2.out.lt _ rfl).2
            have h2 := (V3.out.lt _ e.symm).1
            omega)))
          have D4 := Lib.hid ((D3.out.alloc (by exact D3.out.size) (.cells #[.string s] 9)).grown hgrow4 (by have := D3.out.size; simp; omega) (fun j hj => by have := (V3.out.lt j hj).1; omega))
          have hsz4 : w2.heap.size ≤ w4.heap.size := by have := hgrow4.size; simp at this; omega
          clear hown4 hgrow4
          go_wp2_with fail
          go_roundw
          case rel => exact ⟨k + 1, by omega, by go_num, by rw [HNN.out]; exact V4, Lib.hid (by rw [HNN.out, D0.out]; exact M4.out), O4, D4, hsz4⟩
          case measure => simp [intOf]; omega
        · rw [hh, if_neg (by simp)] at hN
          have HNN := Lib.hid hN
          rw [hh] at LK
          clear hN
          go_wp2_with (go_at_call 87; refine (KV.out _).mono ?_; rintro e w' ⟨rfl, rfl⟩)
          go_roundw
          case rel => exact ⟨k + 1, by omega, by go_num, by rw [HNN.out]; exact hV, Lib.hid (by rw [HNN.out]; exact hM.out.mono (by omega)), hO, hD, hsz⟩
          case measure => simp [intOf]; omega
    · obtain rfl : k = n := by omega
      have hV2 := hV.out
      rw [VF.out] at hV2
      have HV2 := Lib.hid hV2
      clear hV2
      go_wp2_with fail
      go_ret
      exact ⟨_, _, rfl, HV2.out, by omega, hD.out⟩
end TermF
end Go.Proofs.YtgbbpliihglijaaGreat
