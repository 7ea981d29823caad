/- Texts laid together: NorC; LigV; LigM; LigA; LigC. Their own heads stand before each. -/
import Derived.Test.YtdkpflojdnkbnaaGreatDoorHAJ
import Derived.Test.YtdkpflojdnkbnaaGreatDoorHAN
import Derived.Test.YtdkpflojdnkbnaaGreatDoorHAA
import Derived.Laws.Concat
/- Valid of rules, of the code and of the reference. No conditions on sizes. -/
namespace Go.Proofs.YtdkpflojdnkbnaaGreatDoor
open Go Go.RowKit
namespace NorC
open LexM TermM TermI Kit TermN TermU UniK UniM UniA UnpP NorB
def vlB (r : Rl) : Bool := decide (r.2.length ≤ 8) && (atB r.1 && r.2.all (fun x => atB x.2))
theorem vl_long {r : Rl} (h : 8 < r.2.length) : vlB r = false := by
  unfold vlB
  rw [decide_eq_false (by omega), Bool.false_and]
theorem vl_head {r : Rl} (h : atB r.1 = false) : vlB r = false := by
  unfold vlB
  rw [h, Bool.false_and, Bool.and_false]
theorem vl_body {r : Rl} {k : Nat} {x : Lt} (hk : r.2[k]? = some x) (h : atB x.2 = false) : vlB r = false := by
  have : r.2.all (fun x => atB x.2) = false := by
    rw [List.all_eq_false]
    exact ⟨x, List.mem_of_getElem? hk, by simp [h]⟩
  unfold vlB
  rw [this, Bool.and_false, Bool.and_false]
theorem vl_true {r : Rl} (h1 : r.2.length ≤ 8) (h2 : atB r.1 = true) (h3 : ∀ k x, k < r.2.length → r.2[k]? = some x → atB x.2 = true) : vlB r = true := by
  have : r.2.all (fun x => atB x.2) = true := by
    rw [List.all_eq_true]
    intro x hx
    obtain ⟨k, hk, e⟩ := List.getElem_of_mem hx
    exact h3 k x hk (by rw [List.getElem?_eq_getElem hk, e])
  unfold vlB
  rw [decide_eq_true h1, h2, this]
  rfl
set_option maxRecDepth 100000 in
set_option maxHeartbeats 3200000 in
theorem valid_any (r : Rl) (B : Nat) (w : World) (sa sl : Value) (hB : B ≤ w.heap.size) (hs : r.1.nm.size ≤ maxLen) (ha : SlIn (· < B) w r.1.args sa) (hl : LIn (· < B) w r.2 sl) :
    Calls Tryz.prog 32 #[.agg #[.string r.1.nm, sa, sl]] w fun e w' => e = .returned (.bool (vlB r)) ∧ Gr w w' := by
  obtain ⟨p, c, rfl⟩ := ha.form
  obtain ⟨p', c', rfl, hc, hm, hR⟩ := LIn.row hl
  have V0 := Lib.hid (fun h => vl_long (r := r) h)
  have V1 := Lib.hid (fun h => vl_head (r := r) h)
  have VK := Lib.hid (fun k x hk h => vl_body (r := r) (k := k) (x := x) hk h)
  have VT := Lib.hid (fun h1 h2 h3 => vl_true (r := r) h1 h2 h3)
  have HA := Lib.hid (fun (w' : World) (g : Gr w w') => atom_any r.1 B w' (.slice p r.1.args.length c) (Nat.le_trans hB g.size) hs (ha.gr g hB))
  have AT := Lib.hid (fun (t : Tm) (w' : World) (v : Value) (hw : B ≤ w'.heap.size) (hs : t.nm.size ≤ maxLen) (h : SlIn (· < B) w' t.args v) => atom_any t B w' v hw hs h)
  obtain ⟨t, l⟩ := r
  dsimp only at *
  have HR := Lib.hid hR
  have HB := Lib.hid hB
  have H0 := Lib.hid (Has.new w 27 #[.string t.nm, .slice p t.args.length c, .slice p' l.length c'])
  have G0 := Lib.hid (Gr.alloc w (.cells #[.string t.nm, .slice p t.args.length c, .slice p' l.length c'] 27))
  clear hR ha hl hs hB
  generalize vlB (t, l) = R at *
  generalize atB t = A at *
  generalize hln : l.length = n at *
  have HN := Lib.hid hln
  clear hln
  by_cases h8 : 8 < n
  · have h8' : (8 : Int) < n := by omega
    have R0 := V0.out h8
    subst R0
    go_enter Tryz.func32, Tryz.ntmps32
    go_wp2_with fail
    go_ret
    exact ⟨rfl, G0.out⟩
  · have h8' : ¬ ((8 : Int) < n) := by omega
    go_enter Tryz.func32, Tryz.ntmps32
    go_wp2_with fail
    refine (HA.out _ G0.out).mono ?_
    rintro e w1 ⟨rfl, g1⟩
    have G1 := Lib.hid (G0.out.trans g1)
    have H1 := Lib.hid (H0.out.below g1.1 (by simp))
    obtain ⟨x1, x2, x3⟩ := three H1.out
    clear g1
    cases A
    · have R0 := V1.out rfl
      subst R0
      go_wp2_with fail
      go_ret
      exact ⟨rfl, G1.out⟩
    · go_wp2_with fail
      go_loopw [18] (fun i wL => ∃ k : Nat, k ≤ n ∧ i = .int .i64 k ∧ Hid (Gr w wL) ∧ Hid (∀ j x, j < k → l[j]? = some x → atB x.2 = true)) (fun i _ => n - (intOf i).toNat)
      case atStart => exact ⟨0, by omega, rfl, G1, Lib.hid (fun j x h _ => absurd h (Nat.not_lt_zero j))⟩
      case round =>
        obtain ⟨k, hk, rfl, hG, hA⟩ := hrel
        by_cases hlt : k < n
        · obtain ⟨t2, b, o, q, d, ht, rfl, hb, c1, c2, c3, hs, hts⟩ := (RowL.gr HR.out hG.out HB.out) k (by rw [HN.out]; exact hlt)
          have VF := Lib.hid (VK.out k t2 ht)
          have HT := Lib.hid ht
          have AK := Lib.hid (fun (w' : World) (g : Gr wr w') => AT.out t2.2 w' _ (Nat.le_trans HB.out (Nat.le_trans hG.out.size g.size)) hts (hs.gr g (Nat.le_trans HB.out hG.out.size)))
          have NX : Hid (atB t2.2 = true → ∀ j x, j < k + 1 → l[j]? = some x → atB x.2 = true) := Lib.hid (fun h j x hj hx => by
            by_cases e : j = k
            · subst e
              rw [HT.out] at hx
              cases hx
              exact h
            · exact hA.out j x (by omega) hx)
          clear ht hs hts
          generalize atB t2.2 = A2 at *
          go_wp2_with fail
          refine (AK.out _ (Gr.alloc _ _)).mono ?_
          rintro e w5 ⟨rfl, g5⟩
          have G5 := Lib.hid ((hG.out.trans (Gr.alloc _ _)).trans g5)
          clear g5 c1 c2 c3
          cases A2
          · have R0 := VF.out rfl
            subst R0
            go_wp2_with fail
            go_ret
            exact ⟨rfl, G5.out⟩
          · go_wp2_with fail
            go_roundw
            case rel => exact ⟨k + 1, by omega, by go_num, G5, Lib.hid (NX.out trivial)⟩
            case measure => simp [intOf] <;> omega
        · obtain rfl : k = n := by omega
          have R0 := VT.out (by omega) trivial hA.out
          subst R0
          go_wp2_with fail
          go_ret
          exact ⟨rfl, hG.out⟩
set_option maxRecDepth 100000 in
set_option maxHeartbeats 3200000 in
theorem rvalid_any (r : Rl) (B : Nat) (w : World) (sa sl : Value) (hB : B ≤ w.heap.size) (hs : r.1.nm.size ≤ maxLen) (ha : SlIn (· < B) w r.1.args sa) (hl : LIn (· < B) w r.2 sl) :
    Calls Tryz.prog 39 #[.agg #[.string r.1.nm, sa, sl]] w fun e w' => e = .returned (.bool (vlB r)) ∧ Gr w w' := by
  obtain ⟨p, c, rfl⟩ := ha.form
  obtain ⟨p', c', rfl, hc, hm, hR⟩ := LIn.row hl
  have V0 := Lib.hid (fun h => vl_long (r := r) h)
  have V1 := Lib.hid (fun h => vl_head (r := r) h)
  have VK := Lib.hid (fun k x hk h => vl_body (r := r) (k := k) (x := x) hk h)
  have VT := Lib.hid (fun h1 h2 h3 => vl_true (r := r) h1 h2 h3)
  have HA := Lib.hid (fun (w' : World) (g : Gr w w') => ratom_any r.1 B w' (.slice p r.1.args.length c) (Nat.le_trans hB g.size) hs (ha.gr g hB))
  have AT := Lib.hid (fun (t : Tm) (w' : World) (v : Value) (hw : B ≤ w'.heap.size) (hs : t.nm.size ≤ maxLen) (h : SlIn (· < B) w' t.args v) => ratom_any t B w' v hw hs h)
  obtain ⟨t, l⟩ := r
  dsimp only at *
  have HR := Lib.hid hR
  have HB := Lib.hid hB
  have H0 := Lib.hid (Has.new w 27 #[.string t.nm, .slice p t.args.length c, .slice p' l.length c'])
  have G0 := Lib.hid (Gr.alloc w (.cells #[.string t.nm, .slice p t.args.length c, .slice p' l.length c'] 27))
  clear hR ha hl hs hB
  generalize vlB (t, l) = R at *
  generalize atB t = A at *
  generalize hln : l.length = n at *
  have HN := Lib.hid hln
  clear hln
  have HX := Lib.hid (fun (w' : World) (g : Gr (w.alloc (.cells #[.string t.nm, .slice p t.args.length c, .slice p' n c'] 27)) w') => H0.out.below g.1 (by simp))
  go_enter Tryz.func39, Tryz.ntmps39
  go_wp2_with fail
  refine (HA.out _ G0.out).mono ?_
  rintro e w1 ⟨rfl, g1⟩
  have G1 := Lib.hid (G0.out.trans g1)
  have B1 := Lib.hid g1
  obtain ⟨x1, x2, x3⟩ := three (HX.out _ g1)
  clear g1
  cases A
  · have R0 := V1.out rfl
    subst R0
    go_wp2_with fail
    go_ret
    exact ⟨rfl, G1.out⟩
  · by_cases h8 : 8 < n
    · have h8' : (8 : Int) < n := by omega
      have R0 := V0.out h8
      subst R0
      go_wp2_with fail
      go_ret
      exact ⟨rfl, G1.out⟩
    · have h8' : ¬ ((8 : Int) < n) := by omega
      go_wp2_with fail
      go_loopw [3] (fun i wL => ∃ k : Nat, k ≤ n ∧ i = .int .i64 k ∧ Hid (Gr w wL) ∧ Hid (Gr (w.alloc (.cells #[.string t.nm, .slice p t.args.length c, .slice p' n c'] 27)) wL) ∧ Hid (∀ j x, j < k → l[j]? = some x → atB x.2 = true)) (fun i _ => n - (intOf i).toNat)
      case atStart => exact ⟨0, by omega, rfl, G1, B1, Lib.hid (fun j x h _ => absurd h (Nat.not_lt_zero j))⟩
      case round =>
        obtain ⟨k, hk, rfl, hG, hB2, hA⟩ := hrel
        obtain ⟨y1, y2, y3⟩ := three (HX.out _ hB2.out)
        by_cases hlt : k < n
        · obtain ⟨t2, b, o, q, d, ht, rfl, hb, c1, c2, c3, hs, hts⟩ := (RowL.gr HR.out hG.out HB.out) k (by rw [HN.out]; exact hlt)
          have VF := Lib.hid (VK.out k t2 ht)
          have HT := Lib.hid ht
          have AK := Lib.hid (AT.out t2.2 wr _ (Nat.le_trans HB.out hG.out.size) hts hs)
          have NX : Hid (atB t2.2 = true → ∀ j x, j < k + 1 → l[j]? = some x → atB x.2 = true) := Lib.hid (fun h j x hj hx => by
            by_cases e : j = k
            · subst e
              rw [HT.out] at hx
              cases hx
              exact h
            · exact hA.out j x (by omega) hx)
          clear ht hs hts
          generalize atB t2.2 = A2 at *
          go_wp2_with fail
          refine AK.out.mono ?_
          rintro e w5 ⟨rfl, g5⟩
          have G5 := Lib.hid (hG.out.trans g5)
          have B5 := Lib.hid (hB2.out.trans g5)
          clear g5 c1 c2 c3
          cases A2
          · have R0 := VF.out rfl
            subst R0
            go_wp2_with fail
            go_ret
            exact ⟨rfl, G5.out⟩
          · go_wp2_with fail
            go_roundw
            case rel => exact ⟨k + 1, by omega, by go_num, G5, B5, Lib.hid (NX.out trivial)⟩
            case measure => simp [intOf] <;> omega
        · obtain rfl : k = n := by omega
          have R0 := VT.out (by omega) trivial hA.out
          subst R0
          go_wp2_with fail
          go_ret
          exact ⟨rfl, hG.out⟩
end NorC
end Go.Proofs.YtdkpflojdnkbnaaGreatDoor
/- A block of one number holds no part of a term, a pair, a literal or a way: it may turn. No conditions. -/
namespace Go.Proofs.YtdkpflojdnkbnaaGreatDoor
open Go Go.RowKit
namespace LigV
open LexM TermM TermI Kit TermN TermU UniK UniM LigP LigQ LigW
/-- The block holds numbers alone. -/
def Dull (w : World) (r : Nat) : Prop := ∀ o u, w.cell? ⟨r, o, none⟩ = some u → ∃ k i, u = .int k i
theorem dull_has {w : World} {r : Nat} {k : IntKind} {i : Int} (h : Has w r #[.int k i]) : Dull w r := fun o u hu => by
  rw [h.cell o] at hu
  match o, hu with
  | 0, hu => simp at hu; exact ⟨k, i, hu.symm⟩
  | o + 1, hu => simp at hu
theorem slin_avoid {ok : Nat → Prop} {w : World} {r : Nat} {l : List Tm} {v : Value} (hd : Dull w r) (h : SlIn ok w l v) : SlIn (fun b => ok b ∧ b ≠ r) w l v := by
  induction h with
  | mk p c l V b o hp hn hc hm h1 h2 ih =>
    refine .mk p c l V b o (fun h => ⟨(hp h).1, (hp h).2, fun e => ?_⟩) hn hc hm h1 ih
    subst e
    obtain ⟨t, ht⟩ : ∃ t, l[0]? = some t := by
      cases l with
      | nil => exact absurd rfl h
      | cons a l => exact ⟨a, rfl⟩
    obtain ⟨k, i, e⟩ := hd _ _ (h1 0 t ht).1
    cases e
theorem row_avoid {α : Type} {K : Kd α} {ok : Nat → Prop} {w : World} {r : Nat} {L : List α} {v : Value} (hd : Dull w r) (hK : ∀ x, K.inn ok w x → K.inn (fun b => ok b ∧ b ≠ r) w x) (hs : ∀ x, ∃ (j : Nat) (u : Value), (K.cells x)[j]? = some u ∧ ∀ k i, u ≠ .int k i)
    (h : RowG K ok w L v) : RowG K (fun b => ok b ∧ b ≠ r) w L v := by
  obtain ⟨p, c, h1, h2, h3, h4, h5⟩ := h
  refine ⟨p, c, h1, h2, h3, fun x hx => hK x (h4 x hx), fun hl => ?_⟩
  obtain ⟨g, o, e1, e2, e3⟩ := h5 hl
  refine ⟨g, o, e1, ⟨e2, fun e => ?_⟩, e3⟩
  subst e
  obtain ⟨x, hx⟩ : ∃ x, L[0]? = some x := ⟨L[0], by simp [hl]⟩
  obtain ⟨j, u, hu, hn⟩ := hs x
  obtain ⟨k, i, e⟩ := hd _ _ (e3 0 x hx j u hu)
  exact hn k i e
theorem pin_avoid {ok : Nat → Prop} {w : World} {r : Nat} {l : List Bd} {v : Value} (hd : Dull w r) (h : PIn ok w l v) : PIn (fun b => ok b ∧ b ≠ r) w l v := by
  obtain ⟨L, e, h⟩ := h
  exact ⟨L, e, row_avoid hd (fun x hx => ⟨slin_avoid hd hx.1, hx.2⟩) (fun x => ⟨0, _, rfl, fun k i e => by cases e⟩) h⟩
theorem lin_avoid {ok : Nat → Prop} {w : World} {r : Nat} {l : List Lt} {v : Value} (hd : Dull w r) (h : LIn ok w l v) : LIn (fun b => ok b ∧ b ≠ r) w l v := by
  obtain ⟨L, e, h⟩ := h
  exact ⟨L, e, row_avoid hd (fun x hx => ⟨slin_avoid hd hx.1, hx.2⟩) (fun x => ⟨0, _, rfl, fun k i e => by cases e⟩) h⟩
/-- What lies in blocks of a world, the counter's aside, stays while new blocks come and the counter turns. -/
theorem slin_ch2 {r : Nat} {a b : World} {l : List Tm} {v : Value} (h : SlIn (fun k => k < a.heap.size ∧ k ≠ r) a l v) (g : Ch r a b) : SlIn (fun k => k < b.heap.size ∧ k ≠ r) b l v :=
  (h.frame fun _ _ hk => g.cell hk.1 hk.2).weaken fun _ hk => ⟨Nat.lt_of_lt_of_le hk.1 g.size, hk.2⟩
theorem lin_ch2 {r : Nat} {a b : World} {l : List Lt} {v : Value} (h : LIn (fun k => k < a.heap.size ∧ k ≠ r) a l v) (g : Ch r a b) : LIn (fun k => k < b.heap.size ∧ k ≠ r) b l v :=
  (h.keep fun _ _ hk => g.cell hk.1 hk.2).wide fun _ hk => ⟨Nat.lt_of_lt_of_le hk.1 g.size, hk.2⟩
/-- The row of ways grows on; the counter turns. -/
theorem own_ch2 {ok0 : Nat → Prop} {r base : Nat} {a b : World} {L : List Wy} {v : Value} (h : OwnW ok0 base a L v) (g : Ch r a b) (hd : Dull a r) (hr : v.ownBlock ≠ some r) : OwnW ok0 base b L v := by
  obtain ⟨h1, ok, h2, h3⟩ := h
  have hl := h1.lt
  refine ⟨⟨h1.1, ?_⟩, fun k => ok k ∧ k ≠ r, fun b hk => ⟨(h2 b hk.1).1, Nat.lt_of_lt_of_le (h2 b hk.1).2.1 g.size, (h2 b hk.1).2.2⟩, fun x hx => (pin_avoid hd (h3 x hx)).keep fun b o hk => g.cell (h2 b hk.1).2.1 hk.2⟩
  rcases h1.2 with h | ⟨k, cap, cur, e1, e2, e3, e4⟩
  · exact Or.inl h
  · exact Or.inr ⟨k, cap, cur, e1, e2, (g.block k (hl k (by rw [e1]; rfl)).2 (fun e => hr (by rw [e1]; exact e))).trans e3, e4⟩
end LigV
end Go.Proofs.YtdkpflojdnkbnaaGreatDoor
/- Light rules, plain: how long a term's key is; terms with names of at most N bytes and at most 19 arguments. No conditions. -/
namespace Go.Proofs.YtdkpflojdnkbnaaGreatDoor
open Go
namespace LigM
open LexM TermM
mutual
def klen : Tm → Nat
  | .mk n l => n.size + 2 + klenL l
def klenL : List Tm → Nat
  | [] => 0
  | t :: l => klen t + 1 + klenL l
end
theorem klenL_app : ∀ a b, klenL (a ++ b) = klenL a + klenL b
  | [], b => by simp [klenL]
  | t :: a, b => by simp [klenL, klenL_app a b, Nat.add_assoc]
theorem klen_next (l : List Tm) (k : Nat) (t : Tm) (h : l[k]? = some t) : klenL (l.take (k + 1)) = klenL (l.take k) + (klen t + 1) := by
  rw [take_get l k t h, klenL_app]
  simp [klenL]
theorem klenL_mem {x : Tm} : ∀ {l : List Tm}, x ∈ l → klen x + 1 ≤ klenL l
  | [], h => by cases h
  | a :: r, h => by
    unfold klenL
    rcases List.mem_cons.1 h with rfl | h
    · omega
    · have := klenL_mem h; omega
theorem len_klen : ∀ l : List Tm, l.length ≤ klenL l
  | [] => Nat.zero_le _
  | t :: l => by
    have := len_klen l
    simp only [List.length_cons, klenL]
    omega
theorem klenL_take (l : List Tm) (k : Nat) : klenL (l.take k) ≤ klenL l := by
  have h := klenL_app (l.take k) (l.drop k)
  rw [List.take_append_drop] at h
  omega
mutual
/-- Names of at most N bytes, at most 19 arguments everywhere. -/
def GN (N : Nat) : Tm → Prop
  | .mk n l => n.size ≤ N ∧ l.length ≤ 19 ∧ GL N l
def GL (N : Nat) : List Tm → Prop
  | [] => True
  | t :: l => GN N t ∧ GL N l
end
theorem gl_iff {N : Nat} : ∀ {l : List Tm}, GL N l ↔ ∀ x ∈ l, GN N x
  | [] => by simp [GL]
  | t :: l => by simp [GL, gl_iff (l := l)]
theorem gn_arg {N : Nat} {n : ByteArray} {l : List Tm} (h : GN N (.mk n l)) {x : Tm} (hx : x ∈ l) : GN N x := by
  unfold GN at h
  exact gl_iff.1 h.2.2 x hx
theorem gn_nm {N : Nat} {t : Tm} (h : GN N t) : t.nm.size ≤ N := by
  obtain ⟨n, l⟩ := t
  unfold GN at h
  exact h.1
theorem gn_mk {N : Nat} {n : ByteArray} {l : List Tm} (h1 : n.size ≤ N) (h2 : l.length ≤ 19) (h3 : ∀ x ∈ l, GN N x) : GN N (.mk n l) := by
  unfold GN
  exact ⟨h1, h2, gl_iff.2 h3⟩
theorem depL_mem {x : Tm} : ∀ {l : List Tm}, x ∈ l → depthT x ≤ depthL l
  | [], h => by cases h
  | a :: r, h => by
    unfold depthL
    rcases List.mem_cons.1 h with rfl | h
    · omega
    · have := depL_mem h; omega
theorem dep_arg {n : ByteArray} {l : List Tm} {x : Tm} (h : x ∈ l) : depthT x + 1 ≤ depthT (.mk n l) := by
  have := depL_mem h
  simp only [depthT]
  omega
theorem klenL_sum {K : Nat} : ∀ {l : List Tm}, (∀ x ∈ l, klen x + 1 ≤ K) → klenL l ≤ l.length * K
  | [], _ => by simp [klenL]
  | t :: l, h => by
    have h1 := h t (by simp)
    have h2 := klenL_sum (l := l) fun x hx => h x (by simp [hx])
    simp only [klenL, List.length_cons, Nat.succ_mul]
    omega
theorem klen_le {N : Nat} : ∀ (d : Nat) (t : Tm), GN N t → depthT t ≤ d → klen t + 1 ≤ (N + 3) * 20 ^ d
  | 0, .mk n l, _, h => by simp [depthT] at h
  | d + 1, .mk n l, hg, h => by
    have hg' := hg
    unfold GN at hg'
    have h1 := klenL_sum (K := (N + 3) * 20 ^ d) (l := l) fun x hx => klen_le d x (gn_arg hg hx) (by have := dep_arg (n := n) hx; omega)
    have h2 : l.length * ((N + 3) * 20 ^ d) ≤ 19 * ((N + 3) * 20 ^ d) := Nat.mul_le_mul_right _ hg'.2.1
    have hp : 1 ≤ 20 ^ d := Nat.one_le_pow _ _ (by decide)
    have h3 : N + 3 ≤ (N + 3) * 20 ^ d := Nat.le_mul_of_pos_right _ hp
    have h4 : (N + 3) * 20 ^ (d + 1) = 20 * ((N + 3) * 20 ^ d) := by rw [Nat.pow_succ]; rw [← Nat.mul_assoc, Nat.mul_comm]
    rw [h4]
    simp only [klen]
    omega
theorem sizeL_sum {K : Nat} : ∀ {l : List Tm}, (∀ x ∈ l, sizeT x ≤ K) → sizeL l ≤ l.length * K
  | [], _ => by simp [sizeL]
  | t :: l, h => by
    have h1 := h t (by simp)
    have h2 := sizeL_sum (l := l) fun x hx => h x (by simp [hx])
    simp only [sizeL, List.length_cons, Nat.succ_mul]
    omega
theorem size_le {N : Nat} : ∀ (d : Nat) (t : Tm), GN N t → depthT t ≤ d → sizeT t ≤ 20 ^ d
  | 0, .mk n l, _, h => by simp [depthT] at h
  | d + 1, .mk n l, hg, h => by
    have hg' := hg
    unfold GN at hg'
    have h1 := sizeL_sum (K := 20 ^ d) (l := l) fun x hx => size_le d x (gn_arg hg hx) (by have := dep_arg (n := n) hx; omega)
    have h2 : l.length * 20 ^ d ≤ 19 * 20 ^ d := Nat.mul_le_mul_right _ hg'.2.1
    have hp : 1 ≤ 20 ^ d := Nat.one_le_pow _ _ (by decide)
    rw [Nat.pow_succ]
    simp only [sizeT]
    omega
end LigM
end Go.Proofs.YtdkpflojdnkbnaaGreatDoor
/- variable of gameplayerplain: it answers a bool. No conditions. -/
namespace Go.Proofs.YtdkpflojdnkbnaaGreatDoor
open Go Go.RowKit
namespace LigA
open LexM TermM TermI Kit
set_option maxRecDepth 100000 in
set_option maxHeartbeats 400000 in
theorem variable_any (t : Tm) (p : Option Addr) (c : Nat) (w : World) :
    Calls Tryz.prog 120 #[.agg #[.string t.nm, .slice p t.args.length c]] w fun e w' => ∃ b : Bool, e = .returned (.bool b) ∧ Gr w w' := by
  generalize t.args.length = m
  generalize t.nm = n
  obtain ⟨z, hz⟩ : ∃ z, ((m : Int) == 0) = z := ⟨_, rfl⟩
  cases z
  · go_enter Tryz.func120, Tryz.ntmps120
    go_wp2_with fail
    go_ret
    exact ⟨_, rfl, Gr.alloc _ _⟩
  · by_cases hn : n.size = 0
    · have e : n = ⟨#[]⟩ := by
        obtain ⟨d⟩ := n
        have : d = #[] := Array.eq_empty_of_size_eq_zero hn
        rw [this]
      subst e
      go_enter Tryz.func120, Tryz.ntmps120
      go_wp2_with fail
      go_ret
      exact ⟨_, rfl, Gr.alloc _ _⟩
    · have hs : 0 < n.size := by omega
      have hs2 : (0 : Int) < (n.size : Int) := by omega
      have hne : (n.toList == ([] : List UInt8)) = false := by
        rw [beq_eq_false_iff_ne]
        intro h
        rw [ByteArray.toList_eq] at h
        have h2 : n.data.size = 0 := by rw [← Array.length_toList, h]; rfl
        exact hn h2
      obtain ⟨g1, hg1⟩ : ∃ z, decide ((65 : Int) ≤ (n[0]'hs).toNat) = z := ⟨_, rfl⟩
      obtain ⟨g2, hg2⟩ : ∃ z, decide (((n[0]'hs).toNat : Int) ≤ 90) = z := ⟨_, rfl⟩
      go_enter Tryz.func120, Tryz.ntmps120
      cases g1 <;> cases g2
      all_goals
        go_wp2_with fail
        go_ret
        exact ⟨_, rfl, Gr.alloc _ _⟩
end LigA
end Go.Proofs.YtdkpflojdnkbnaaGreatDoor
/- key of gameplayerplain: a string of the plain length. Condition: it is short enough. -/
namespace Go.Proofs.YtdkpflojdnkbnaaGreatDoor
open Go Go.RowKit
namespace LigC
open LexM TermM TermI Kit LigM
set_option maxRecDepth 100000 in
set_option maxHeartbeats 1600000 in
theorem key_any (t : Tm) : ∀ (B : Nat) (w : World) (sv : Value), B ≤ w.heap.size → SlIn (· < B) w t.args sv → klen t ≤ 4611686018427387904 →
    Calls Tryz.prog 83 #[.agg #[.string t.nm, sv]] w fun e w' => ∃ S : ByteArray, e = .returned (.string S) ∧ S.size = klen t ∧ Gr w w' := by
  induction t using Tm.ind with
  | h n l ih =>
    intro B w sv hB h hz
    dsimp only [Tm.args, Tm.nm] at h ⊢
    obtain ⟨p, c, rfl, hn, hc, hm, hR⟩ := h.row
    simp only [klen] at hz
    have h63 : l.length ≤ 9223372036854775806 := by have := len_klen l; omega
    have IH : Hid (∀ t ∈ l, ∀ (w : World) (v : Value), B ≤ w.heap.size → SlIn (· < B) w t.args v → Calls Tryz.prog 83 #[.agg #[.string t.nm, v]] w fun e w' => ∃ S : ByteArray, e = .returned (.string S) ∧ S.size = klen t ∧ Gr w w') :=
      Lib.hid (fun t hk w v hB h => ih t hk B w v hB h (by have := klenL_mem hk; omega))
    have NX : Hid (∀ k t, l[k]? = some t → klenL (l.take (k + 1)) = klenL (l.take k) + (klen t + 1)) := Lib.hid (fun k t h => klen_next l k t h)
    have GT : Hid (∀ k, n.size + 2 + klenL (l.take k) ≤ 4611686018427387904) := Lib.hid (fun k => by have := klenL_take l k; omega)
    have FL : Hid (n.size + 2 + klenL (l.take l.length) = klen (.mk n l)) := Lib.hid (by rw [List.take_length, klen])
    have HB := Lib.hid hB
    have HR := Lib.hid hR
    have P0 := Lib.hid (fun w' => run_string_add_sum (P := Tryz.prog) w' n ⟨#[40]⟩ (by show _ + 1 ≤ _; omega))
    generalize hm' : l.length = m at *
    have HM := Lib.hid hm'
    clear ih hR h hm' hn
    have p0 := P0.out
    have hn40 : (n ++ ⟨#[40]⟩ : ByteArray).size = n.size + 1 := by rw [ByteArray.size_append]; rfl
    generalize hS0 : (n ++ ⟨#[40]⟩ : ByteArray) = S0 at *
    clear hS0
    have HS0 := Lib.hid hn40
    clear hn40
    go_enter Tryz.func83, Tryz.ntmps83
    go_wp2_with fail
    clear p0
    go_loopw [3, 11] (fun d i wr => ∃ (k : Nat) (S : ByteArray), k ≤ m ∧ i = .int .i64 k ∧ d = .string S ∧ Hid (S.size = n.size + 1 + klenL (l.take k)) ∧ Hid (Gr (w.alloc (.cells #[.string n, .slice p m c] 24)) wr)) (fun _ i _ => m - (intOf i).toNat)
    case atStart => exact ⟨0, S0, Nat.zero_le _, rfl, rfl, Lib.hid (by rw [HS0.out]; simp [klenL]), Lib.hid (Gr.refl _)⟩
    case round =>
      obtain ⟨k, S, hk, rfl, rfl, hSz, hg⟩ := hrel
      by_cases hlt : k < m
      · obtain ⟨t, b, o, q, d, ht, rfl, hb, c1, c2, hs, hts⟩ := (HR.out.gr ((Gr.alloc _ _).trans hg.out) HB.out) k (by rw [HM.out]; exact hlt)
        obtain ⟨b0, b1, _, _, hbl⟩ := (hg.out.has (Has.new w _ _)).two
        have HD := Lib.hid (NX.out k t ht)
        have GT1 := Lib.hid (GT.out (k + 1))
        have IT := Lib.hid (IH.out t (List.mem_of_getElem? ht) wr _ (Nat.le_trans HB.out ((Gr.alloc _ _).trans hg.out).size) hs)
        clear ht hs hts
        generalize klen t = kt at *
        go_wp2_with fail
        refine IT.out.mono ?_
        rintro e w' ⟨T, rfl, hT, g2⟩
        have hg2 := Lib.hid (hg.out.trans g2)
        have hsz := hSz.out
        have hd := HD.out
        have hgt := GT1.out
        have p1 := fun w' => run_string_add_sum (P := Tryz.prog) w' T ⟨#[44]⟩ (by show _ + 1 ≤ _; omega)
        have hT2 : (T ++ ⟨#[44]⟩ : ByteArray).size = kt + 1 := by rw [ByteArray.size_append, hT]; rfl
        generalize hT3 : (T ++ ⟨#[44]⟩ : ByteArray) = T2 at *
        clear hT3
        have p2 := fun w' => run_string_add_sum (P := Tryz.prog) w' S T2 (by omega)
        have hS2 : (S ++ T2).size = n.size + 1 + klenL (l.take (k + 1)) := by rw [ByteArray.size_append]; omega
        generalize hS3 : S ++ T2 = S2 at *
        have HS2 := Lib.hid hS2
        clear g2 hsz hd hgt hS3 hS2 hT2 hT IT HD GT1
        go_wp2_with fail
        go_roundw
        case rel => exact ⟨k + 1, S2, by omega, by go_num, rfl, HS2, hg2⟩
        case measure => simp [intOf]; omega
      · obtain rfl : k = m := by omega
        have hgt := GT.out k
        have hsz := hSz.out
        have p1 := fun w' => run_string_add_sum (P := Tryz.prog) w' S ⟨#[41]⟩ (by show _ + 1 ≤ _; omega)
        have hF : (S ++ ⟨#[41]⟩ : ByteArray).size = klen (.mk n l) := by rw [ByteArray.size_append, ← FL.out]; show _ + 1 = _; omega
        generalize (S ++ ⟨#[41]⟩ : ByteArray) = S2 at *
        have HF := Lib.hid hF
        clear hgt hsz hF
        go_wp2_with fail
        go_ret
        exact ⟨S2, rfl, HF.out, (Gr.alloc _ _).trans hg.out⟩
end LigC
end Go.Proofs.YtdkpflojdnkbnaaGreatDoor
