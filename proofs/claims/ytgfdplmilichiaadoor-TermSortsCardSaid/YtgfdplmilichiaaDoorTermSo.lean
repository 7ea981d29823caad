/- The reference's Sort, by insertion. Condition: at most a million terms. -/
import Derived.Test.YtgfdplmilichiaaDoorTermFi
import Derived.Test.YtgfdplmilichiaaDoorTermF
import Derived.Laws.AppendOwnNone
import Derived.Deep.AppendLies
import Derived.Deep.RegionHeld3
namespace Go.Proofs.YtgfdplmilichiaaDoor
open Go Go.RowKit
namespace TermSo
open LexM TermM TermI Kit TermN TermP TermQ TermR TermU TermCr
/-- In ascending order, each once. -/
def PwT (l : List Tm) : Prop := l.Pairwise fun x y => cmpT x y < 0
theorem ins_pw {L : List Tm} {t : Tm} {a : Nat} (h : PwT L) (h1 : ∀ j x, j < a → L[j]? = some x → cmpT x t < 0) (h2 : ∀ x, L[a]? = some x → 0 < cmpT x t) : PwT (L.take a ++ t :: L.drop a) := by
  unfold PwT at h ⊢
  rw [← List.take_append_drop a L, List.pairwise_append] at h
  obtain ⟨p1, p2, p3⟩ := h
  refine List.pairwise_append.2 ⟨p1, List.pairwise_cons.2 ⟨fun y hy => ?_, p2⟩, fun x hx y hy => ?_⟩
  · cases hz : L[a]? with
    | none =>
      rw [List.drop_eq_nil_of_le (List.getElem?_eq_none_iff.1 hz)] at hy
      simp at hy
    | some z =>
      have hzt := h2 z hz
      rw [drop_get hz] at hy p2
      obtain ⟨q1, _⟩ := List.pairwise_cons.1 p2
      have e := cmp_neg z t
      rcases List.mem_cons.1 hy with rfl | hy
      · omega
      · exact (tri_cmp t z y).2.1 (by omega) (by have := q1 y hy; omega)
  · rcases List.mem_cons.1 hy with rfl | hy
    · obtain ⟨j, hj⟩ := List.mem_iff_getElem?.1 hx
      have hlt := (List.getElem?_eq_some_iff.1 hj).1
      rw [List.length_take] at hlt
      rw [List.getElem?_take_of_lt (by omega)] at hj
      exact h1 j x (by omega) hj
    · exact p3 x hx y hy
theorem ins_mem {L : List Tm} {t : Tm} {a : Nat} (u : Tm) : u ∈ L.take a ++ t :: L.drop a ↔ u ∈ L ∨ u = t := by
  rw [List.mem_append, List.mem_cons]
  constructor
  · rintro (h | h | h)
    · exact Or.inl (List.mem_of_mem_take h)
    · exact Or.inr h
    · exact Or.inl (List.mem_of_mem_drop h)
  · rintro (h | h)
    · rw [← List.take_append_drop a L, List.mem_append] at h
      rcases h with h | h
      · exact Or.inl h
      · exact Or.inr (Or.inr h)
    · exact Or.inr (Or.inl h)
theorem bmore {W w : World} (h : Below W.heap.size W w) (o : Obj) : Below W.heap.size W (w.alloc o) := h.alloc h.size o
theorem flatL_app (a b : List (Tm × Value)) : flatL (a ++ b) = flatL a ++ flatL b := by simp [flatL]
/-- A row of terms of the call's own; the lists of arguments lie below B. -/
def OwnS (B base : Nat) (w : World) (L : List (Tm × Value)) (v : Value) : Prop :=
  w.ownsRow base 28 2 v L.length (flatL L) ∧ ∀ x ∈ L, SlIn (· < B) w x.1.args x.2 ∧ x.1.nm.size ≤ maxLen
section
variable {B base : Nat} {w w' : World} {L : List (Tm × Value)} {v : Value}
theorem OwnS.nil (B base : Nat) (w : World) : OwnS B base w [] (.slice none 0 0) := ⟨⟨rfl, Or.inl ⟨rfl, rfl⟩⟩, fun x h => by simp at h⟩
theorem OwnS.below (h : OwnS B base w L v) (hb : Below w.heap.size w w') (hB : B ≤ w.heap.size) : OwnS B base w' L v :=
  ⟨TermF.own_below h.1 hb, fun x hx => ⟨(h.2 x hx).1.deep hb hB, (h.2 x hx).2⟩⟩
theorem OwnS.form (h : OwnS B base w L v) : (v = .slice none 0 0 ∧ L = []) ∨ ∃ g cap, v = .slice (some ⟨g, 0, none⟩) L.length cap ∧ base ≤ g ∧ g < w.heap.size ∧ L.length ≤ cap := by
  have hl := h.1.lt
  rcases h.1.2 with ⟨e, hz⟩ | ⟨g, cap, cur, e, hg, e3, e4, _⟩
  · exact Or.inl ⟨e, List.eq_nil_of_length_eq_zero hz⟩
  · exact Or.inr ⟨g, cap, e, hg, (hl g (by rw [e]; rfl)).2, e4⟩
theorem OwnS.at {g cap : Nat} (h : OwnS B base w L (.slice (some ⟨g, 0, none⟩) L.length cap)) {k : Nat} {x : Tm × Value} (hx : L[k]? = some x) :
    ∃ q d, x.2 = .slice q x.1.args.length d ∧ w.cell? ⟨g, k * 2, none⟩ = some (.string x.1.nm) ∧ w.cell? ⟨g, k * 2 + 1, none⟩ = some (.slice q x.1.args.length d) ∧ SlIn (· < B) w x.1.args (.slice q x.1.args.length d) ∧ x.1.nm.size ≤ maxLen := by
  obtain ⟨f1, f2⟩ := flatL_get L k x hx
  have hk := (List.getElem?_eq_some_iff.1 hx).1
  obtain ⟨s1, s2⟩ := h.2 x (List.mem_of_getElem? hx)
  obtain ⟨q, d, e⟩ := s1.form
  rw [e] at s1 f2
  exact ⟨q, d, e, (h.1.cellAt _ (by omega)).trans f1, (h.1.cellAt _ (by omega)).trans f2, s1, s2⟩
theorem OwnS.slin (h : OwnS B base w L v) (hB : B ≤ w.heap.size) : SlIn (· < w.heap.size) w (L.map (·.1)) v := by
  rcases h.form with ⟨rfl, rfl⟩ | ⟨g, cap, rfl, _, hg, hc⟩
  · exact SlIn.none _ _
  · have hm : (L.map (·.1)).length = L.length := by simp
    have hcap : cap ≤ maxLen := by
      rcases h.1.2 with ⟨e, _⟩ | ⟨g', cap', cur, e, _, _, _, e5, _⟩
      · cases e
      · injection e with _ _ e; subst e; exact e5
    rw [← hm]
    have key : ∀ (i : Nat) (t : Tm), (L.map (·.1))[i]? = some t → ∃ x : Tm × Value, L[i]? = some x ∧ x.1 = t := by
      intro i t ht
      rw [List.getElem?_map] at ht
      obtain ⟨x, a, b⟩ := Option.map_eq_some_iff.1 ht
      exact ⟨x, a, b⟩
    refine .mk _ cap _ (fun i => (L.getD i (default, undef)).2) g 0 (fun _ => ⟨rfl, hg⟩) (fun h => by cases h) (by rw [hm]; exact hc) hcap (fun i t ht => ?_) (fun i t ht => ?_)
    · obtain ⟨x, hx, rfl⟩ := key i t ht
      obtain ⟨q, d, e, f1, f2, _, f4⟩ := h.at hx
      rw [Nat.zero_add]
      exact ⟨f1, by rw [f2, ← e]; simp [List.getD, hx], f4⟩
    · obtain ⟨x, hx, rfl⟩ := key i t ht
      have := (h.2 x (List.mem_of_getElem? hx)).1.weaken (ok' := (· < w.heap.size)) fun b hb => Nat.lt_of_lt_of_le hb hB
      simpa [List.getD, hx] using this
theorem one_flat (h : ∀ x ∈ L, SlIn (· < B) w x.1.args x.2 ∧ x.1.nm.size ≤ maxLen) : ∀ u ∈ flatL L, u.oneCell' = true := by
  intro u hu
  unfold flatL at hu
  obtain ⟨x, hx, hu⟩ := List.mem_flatMap.1 hu
  obtain ⟨q, d, e⟩ := (h x hx).1.form
  simp only [List.mem_cons, List.not_mem_nil, or_false] at hu
  rcases hu with rfl | rfl
  · rfl
  · rw [e]; rfl
theorem OwnS.head {g cap : Nat} (h : OwnS B base w L (.slice (some ⟨g, 0, none⟩) L.length cap)) (a : Nat) : ∀ j u, (flatL (L.take a))[j]? = some u → w.cell? ((⟨g, 0, none⟩ : Addr).add j) = some u := by
  intro j u hj
  refine h.1.cells rfl j u ?_
  rw [← List.take_append_drop a L, flatL_app, List.getElem?_append_left (List.getElem?_eq_some_iff.1 hj).1]
  exact hj
theorem OwnS.tail {g cap : Nat} (h : OwnS B base w L (.slice (some ⟨g, 0, none⟩) L.length cap)) (a : Nat) (ha : a ≤ L.length) (ad : Addr) (had : a < L.length → ad = ⟨g, a * 2, none⟩) : ∀ j u, (flatL (L.drop a))[j]? = some u → w.cell? (ad.add j) = some u := by
  intro j u hj
  have hlt := (List.getElem?_eq_some_iff.1 hj).1
  rw [flatL_len, List.length_drop] at hlt
  rw [had (by omega), addr_add]
  have h2 := h.1.cells rfl (a * 2 + j) u (by
    rw [← List.take_append_drop a L, flatL_app, List.getElem?_append_right (by rw [flatL_len, List.length_take]; omega), flatL_len, List.length_take]
    rw [show a * 2 + j - min a L.length * 2 = j by omega]
    exact hj)
  rw [addr_add, Nat.zero_add] at h2
  exact h2
end
theorem size2 (w : World) : (sizeOf (Tryd.prog.elem 26)).run Tryd.prog w = .ok 2 w := by kernel_rfl
theorem elemT : Tryd.prog.underlying 26 = some (.slice (Tryd.prog.elem 26)) := by kernel_rfl
theorem sl_head (g n cap a : Nat) (h : a ≤ cap) (W : World) : (Instr.slice 26 (.slice (some ⟨g, 0, none⟩) n cap) none (some (.int .i64 (a : Int))) none).run Tryd.prog W = .ok (.slice (some ⟨g, 0, none⟩) a cap) W := by
  rw [run_slice_h W 26 (some ⟨g, 0, none⟩) n cap elemT .i64 (a : Int) (by omega) (by omega), size2]
  simp [Result.andThen, sliced, addr_add]
theorem sl_tail (g n cap a : Nat) (h : a ≤ n) (hc : n ≤ cap) : ∃ ad : Addr, (∀ W, (Instr.slice 26 (.slice (some ⟨g, 0, none⟩) n cap) (some (.int .i64 (a : Int))) none none).run Tryd.prog W = .ok (.slice (some ad) (n - a) (cap - a)) W) ∧ (a < n → ad = ⟨g, a * 2, none⟩) := by
  refine ⟨if cap = a then ⟨g, 0, none⟩ else ⟨g, a * 2, none⟩, fun W => ?_, fun hlt => by rw [if_neg (by omega)]⟩
  rw [run_slice_l W 26 (some ⟨g, 0, none⟩) n cap elemT .i64 (a : Int) (by omega) (by omega), size2]
  simp only [Result.andThen, sliced, Int.toNat_natCast, Option.map_some, addr_add, Nat.zero_add]
  split <;> rfl
/-- What Sort leaves. -/
def SortedRef (l : List Tm) (w : World) (e : Ending) (w' : World) : Prop :=
  ∃ (v : Value) (l' : List Tm), e = .returned v ∧ PwT l' ∧ (∀ t, t ∈ l' ↔ t ∈ l) ∧ SlIn (· < w'.heap.size) w' l' v ∧ Below w.heap.size w w'
set_option maxRecDepth 100000 in
set_option maxHeartbeats 12800000 in
theorem rsort_any (l : List Tm) (B : Nat) (w : World) (sv : Value) (hB : B ≤ w.heap.size) (h : SlIn (· < B) w l sv) (hl : l.length ≤ 1000000) :
    Calls Tryd.prog 41 #[sv] w (SortedRef l w) := by
  obtain ⟨i0, hi, hz0, hz1, hz2⟩ := info_parts Tryd.info28
  obtain ⟨p, c, rfl, _, hc, hm, hR⟩ := h.row
  have HR := Lib.hid hR
  have HB := Lib.hid hB
  have TK : Hid (∀ k t, l[k]? = some t → ∀ u, u ∈ l.take (k + 1) ↔ u ∈ l.take k ∨ u = t) := Lib.hid (fun k t h u => by rw [take_get l k t h]; simp)
  have TM : Hid (l.take l.length = l) := Lib.hid (List.take_length)
  generalize hlm : l.length = m at *
  have HM := Lib.hid hlm
  unfold SortedRef
  clear hR h hlm hB hc hm
  go_enter Tryd.func41, Tryd.ntmps41
  go_wp2_with fail
  go_loopw [3, 9] (fun v i wr => ∃ (k : Nat) (L : List (Tm × Value)), k ≤ m ∧ i = .int .i64 k ∧ Hid (OwnS B w.heap.size wr L v) ∧ Hid (PwT (L.map (·.1))) ∧ Hid (∀ u, u ∈ L.map (·.1) ↔ u ∈ l.take k) ∧ Hid (L.length ≤ k) ∧ Hid (Below w.heap.size w wr)) (fun _ i _ => m - (intOf i).toNat)
  case atStart => exact ⟨0, [], Nat.zero_le _, rfl, Lib.hid (OwnS.nil _ _ _), Lib.hid List.Pairwise.nil, Lib.hid (fun u => by simp), Lib.hid (Nat.le_refl _), Lib.hid (Below.refl _ _)⟩
  case round =>
    obtain ⟨k, L, hk, rfl, OS, PL, ML, HLK, D0⟩ := hrel
    by_cases hlt : k < m
    · obtain ⟨t, b, o, q, d, ht, rfl, hb, c1, c2, hs, hts⟩ := (Row.deep HR.out D0.out HB.out) k (by rw [HM.out]; exact hlt)
      have HS := Lib.hid hs
      have HTS := Lib.hid hts
      have MK := Lib.hid (TK.out k t ht)
      have hb0 : b < wr.heap.size := Nat.lt_of_lt_of_le hb (Nat.le_trans HB.out D0.out.size)
      have CT : Hid (∀ wx, Below wr.heap.size wr wx → wx.cell? ⟨b, o + k * 2, none⟩ = some (.string t.nm) ∧ wx.cell? ⟨b, o + k * 2 + 1, none⟩ = some (.slice q t.args.length d)) := Lib.hid (fun wx g => ⟨(g.cell (p := ⟨b, _, none⟩) hb0).trans c1, (g.cell (p := ⟨b, _, none⟩) hb0).trans c2⟩)
      have INS : Hid (∀ a, (∀ j x, j < a → (L.map (·.1))[j]? = some x → cmpT x t < 0) → (∀ x, (L.map (·.1))[a]? = some x → 0 < cmpT x t) → ∀ v : Value, Hid (PwT ((L.take a ++ (t, v) :: L.drop a).map (·.1))) ∧ Hid (∀ u, u ∈ (L.take a ++ (t, v) :: L.drop a).map (·.1) ↔ u ∈ l.take (k + 1))) := Lib.hid (fun a h1 h2 v => by
        have e : (L.take a ++ (t, v) :: L.drop a).map (·.1) = (L.map (·.1)).take a ++ t :: (L.map (·.1)).drop a := by simp
        rw [e]
        exact ⟨Lib.hid (ins_pw PL.out h1 h2), Lib.hid (fun u => by rw [ins_mem, MK.out u, ML.out u])⟩)
      have SKP : Hid (∀ x, x ∈ L.map (·.1) → cmpT x t = 0 → ∀ u, u ∈ L.map (·.1) ↔ u ∈ l.take (k + 1)) := Lib.hid (fun x hx hz u => by
        rw [MK.out u, ← ML.out u]
        have := (cmp_zero x t).1 hz
        subst this
        constructor
        · exact Or.inl
        · rintro (h | h)
          · exact h
          · rw [h]; exact hx)
      clear hs hts ht
      rcases OS.out.form with ⟨rfl, rfl⟩ | ⟨g, cap, rfl, hg1, hg2, hg3⟩
      · -- out is nil
        have PN := Lib.hid (fun v => (INS.out 0 (fun j x hj => absurd hj (Nat.not_lt_zero _)) (fun x hx => by simp at hx) v).1)
        have MN := Lib.hid (fun v => (INS.out 0 (fun j x hj => absurd hj (Nat.not_lt_zero _)) (fun x hx => by simp at hx) v).2)
        clear INS SKP
        obtain ⟨W0, hW0⟩ : ∃ W0, W0 = wr := ⟨_, rfl⟩
        subst hW0
        generalize hta : t.args.length = ta at *
        generalize htn : t.nm = tn at *
        have HTA := Lib.hid hta
        have HTN := Lib.hid htn
        clear hta htn
        go_wp2_with fail
        go_loopw [5] (fun i wx => i = .int .i64 0 ∧ Hid (Below W0.heap.size W0 wx)) (fun _ _ => 0)
        case atStart => exact ⟨rfl, Lib.hid (Below.refl _ _)⟩
        case round =>
          obtain ⟨rfl, G⟩ := hrel
          go_upto_region 6 with fail
          go_cut [27] (fun s27 wx => s27 = .bool false ∧ Hid (Below W0.heap.size W0 wx))
          case first =>
            go_quiet (fail)
            all_goals
              go_wp2_with fail
              go_meet
              exact ⟨rfl, Lib.hid (by first | exact below_drewN G.out _ | exact G.out.drew | exact G.out)⟩
          case rest =>
            obtain ⟨rfl, G⟩ := hcut
            go_upto_region 8 with fail
            go_cut [45] (fun s45 wx => s45 = .bool false ∧ Hid (Below W0.heap.size W0 wx))
            case first =>
              go_quiet (fail)
              all_goals
                go_wp2_with fail
                go_meet
                exact ⟨rfl, Lib.hid (by first | exact below_drewN G.out _ | exact G.out.drew | exact G.out)⟩
            case rest =>
              obtain ⟨rfl, G⟩ := hcut
              obtain ⟨y3, y4⟩ := CT.out _ G.out
              obtain ⟨b2, hb2⟩ : ∃ b2, b2 = wc.heap.size := ⟨_, rfl⟩
              have HB2 := Lib.hid hb2
              have hbb : w.heap.size ≤ b2 := by have := G.out.size; have := D0.out.size; omega
              have N0 : Hid (wc.ownsRow b2 28 2 (.slice none 0 0) 0 []) := Lib.hid (World.ownsRow_nil wc b2 28 2)
              go_wp2_with (first
                | (at_builtin; refine wpList_append_own_none rfl _ _ 26 rfl b2 28 i0 2 Tryd.underlying26 hi (.slice none 0 0) 0 [] rfl N0.out rfl ?_)
                | (at_builtin; refine wpList_append_own _ rfl _ _ 26 rfl b2 28 i0 (.agg #[.string ⟨#[]⟩, .slice none 0 0]) 2 40 Tryd.underlying26 hi hz0 hz1 hz2 rfl (by decide) (.slice none 0 0) 0 [] rfl (N0.out.alloc _) ⟨wc.heap.size, 0, none⟩ 1 1 [.string tn, .slice q ta d] rfl rfl (news2 _ _ _ _) (one2 _ _ _ _) (by decide) (by decide) (by rw [HB2.out]; simp) ?_; intro v2 w2 hown2 hgrow2 _)
                | (at_builtin; refine wpList_append_own_none rfl _ _ 26 rfl b2 28 i0 2 Tryd.underlying26 hi v2 (0 + 1) ([] ++ [.string tn, .slice q ta d]) rfl hown2 rfl ?_))
              have K3 := Lib.hid ((below_alloc wc _).grown hgrow2 (by simp) (fun j hj => by cases hj))
              have W3 : Hid (w2.ownsRow b2 28 2 v2 (0 + 1) ([] ++ [.string tn, .slice q ta d])) := Lib.hid hown2
              clear hown2 hgrow2
              have O3 : Hid (OwnS B w.heap.size w2 [(t, .slice q ta d)] v2) := Lib.hid ⟨TermF.own_mono (by rw [show flatL [(t, Value.slice q ta d)] = [.string t.nm, .slice q ta d] from rfl, HTN.out]; exact W3.out) hbb, fun x hx => by
                obtain rfl := List.mem_singleton.1 hx
                exact ⟨HS.out.deep (next0 G.out K3.out) (Nat.le_trans HB.out D0.out.size), by show t.nm.size ≤ maxLen; rw [HTN.out]; exact HTS.out⟩⟩
              have D3 := Lib.hid (D0.out.trans ((next0 G.out K3.out).mono D0.out.size))
              go_wp2_with fail
              go_roundw
              case rel => exact ⟨k + 1, [(t, .slice q ta d)], by omega, by go_num, O3, PN.out _, MN.out _, Lib.hid (by have := HLK.out; simp), D3⟩
              case measure => simp [intOf]; omega
      · -- out has a block
        generalize hLn : L.length = n at *
        have HN := Lib.hid hLn
        have hn1 : n ≤ 1000000 := by have := HLK.out; omega
        obtain ⟨W0, hW0⟩ : ∃ W0, W0 = wr := ⟨_, rfl⟩
        subst hW0
        have KC : Hid (∀ w2, Below W0.heap.size W0 w2 → ∀ (x : Tm) (xq : Option Addr) (xd : Nat), x.nm.size ≤ maxLen → SlIn (· < B) w2 x.args (.slice xq x.args.length xd) → Calls Tryd.prog 37 #[.agg #[.string x.nm, .slice xq x.args.length xd], .agg #[.string t.nm, .slice q t.args.length d]] w2 fun e w' => e = .returned (.int .i64 (cmpT x t)) ∧ Below w2.heap.size w2 w') := Lib.hid (fun w2 g' x xq xd h1 h2 => (rcmp_any x B w2 _ t _ (Nat.le_trans HB.out (Nat.le_trans D0.out.size g'.size)) h1 HTS.out h2 (HS.out.deep g' (Nat.le_trans HB.out D0.out.size))).mono fun _ _ ⟨e1, e2⟩ => ⟨e1, e2.1⟩)
        generalize hta : t.args.length = ta at *
        generalize htn : t.nm = tn at *
        have HTA := Lib.hid hta
        have HTN := Lib.hid htn
        clear hta htn hLn
        go_wp2_with fail
        go_loopw [5] (fun i wx => ∃ a : Nat, a ≤ n ∧ i = .int .i64 a ∧ Hid (∀ j x, j < a → (L.map (·.1))[j]? = some x → cmpT x t < 0) ∧ Hid (Below W0.heap.size W0 wx)) (fun i _ => n - (intOf i).toNat)
        case atStart => exact ⟨0, Nat.zero_le _, rfl, Lib.hid (fun j x hj => absurd hj (Nat.not_lt_zero _)), Lib.hid (Below.refl _ _)⟩
        case round =>
          obtain ⟨a, ha, rfl, LO, G⟩ := hrel
          obtain ⟨y3, y4⟩ := CT.out _ G.out
          have hgr : g < wr.heap.size := Nat.lt_of_lt_of_le hg2 G.out.size
          have hbr : b < wr.heap.size := Nat.lt_of_lt_of_le hb0 G.out.size
          by_cases hlta : a < n
          · obtain ⟨x, hx⟩ : ∃ x, L[a]? = some x := ⟨L[a]'(by rw [HN.out]; exact hlta), by simp⟩
            obtain ⟨xq, xd, _, y1, y2, hxs, hxn⟩ := (show OwnS B w.heap.size wr L (.slice (some ⟨g, 0, none⟩) L.length cap) by rw [HN.out]; exact OS.out.below G.out (Nat.le_trans HB.out D0.out.size)).at hx
            have HX : Hid ((L.map (·.1))[a]? = some x.1) := Lib.hid (by rw [List.getElem?_map, hx]; rfl)
            have KK := Lib.hid (fun w2 (g' : Below wr.heap.size wr w2) => KC.out w2 (next0 G.out g') x.1 _ _ hxn (hxs.deep g' (by have := HB.out; have := D0.out.size; have := G.out.size; omega)))
            obtain ⟨z, hz⟩ : ∃ z, cmpT x.1 t = z := ⟨_, rfl⟩
            rw [hz] at KK
            have HZ := Lib.hid hz
            clear hz hx hxs hxn KC
            generalize x.1.nm = xn at *
            generalize x.1.args.length = xa at *
            obtain ⟨zb, hzb⟩ : ∃ zb, decide (z < 0) = zb := ⟨_, rfl⟩
            obtain ⟨ze, hze⟩ : ∃ ze, (z == 0) = ze := ⟨_, rfl⟩
            have hgd : decide (a < n) = true := by simpa using hlta
            have Hb : Hid (∀ w', Below wr.heap.size wr w' → w'.cell? ⟨g, a * 2, none⟩ = some (.string xn) ∧ w'.cell? ⟨g, a * 2 + 1, none⟩ = some (.slice xq xa xd) ∧ w'.cell? ⟨b, o + k * 2, none⟩ = some (.string tn) ∧ w'.cell? ⟨b, o + k * 2 + 1, none⟩ = some (.slice q ta d) ∧ Hid (Below wr.heap.size wr w') ∧ wr.heap.size ≤ w'.heap.size) := Lib.hid (fun w' k => ⟨(k.cell (p := ⟨g, _, none⟩) hgr).trans y1, (k.cell (p := ⟨g, _, none⟩) hgr).trans y2, (k.cell (p := ⟨b, _, none⟩) hbr).trans y3, (k.cell (p := ⟨b, _, none⟩) hbr).trans y4, Lib.hid k, k.size⟩)
            clear y1 y2 y3 y4
            have GR := Lib.hid (Below.refl wr.heap.size wr)
            go_upto_region 6 with fail
            go_cut [27] (fun s27 wx => s27 = .bool zb ∧ Hid (Below wr.heap.size wr wx))
            case first =>
              have hs0 := Hb.out _ (GR.out.drew)
              clear HR HB TK TM HM OS PL ML HLK D0 HS HTS MK CT INS SKP HN LO G HX HZ HTA HTN
              go_region_held3 (fun w' => w'.cell? ⟨g, a * 2, none⟩ = some (.string xn) ∧ w'.cell? ⟨g, a * 2 + 1, none⟩ = some (.slice xq xa xd) ∧ w'.cell? ⟨b, o + k * 2, none⟩ = some (.string tn) ∧ w'.cell? ⟨b, o + k * 2 + 1, none⟩ = some (.slice q ta d) ∧ Hid (Below wr.heap.size wr w') ∧ wr.heap.size ≤ w'.heap.size)
                (first | (with_reducible assumption) | (with_reducible exact ⟨‹_›, ‹_›, ‹_›, ‹_›, ‹_›, ‹_›⟩) | (with_reducible refine Hb.out _ ?_; repeat (first | (with_reducible exact Hid.out (by assumption)) | (with_reducible exact Below.refl _ _) | (with_reducible refine Below.drew ?_) | (with_reducible refine bmore ?_ _))))
                (first | (go_at_call 37; (try go_split_ands); (with_reducible refine (KK.out _ (by repeat (first | (with_reducible exact Hid.out (by assumption)) | (with_reducible exact Below.refl _ _) | (with_reducible refine Below.drew ?_) | (with_reducible refine bmore ?_ _)))).mono ?_); rintro e w' ⟨rfl, q0⟩; (have qg : Below wr.heap.size wr w' := by (refine next0 ?_ q0; repeat (first | (with_reducible exact Hid.out (by assumption)) | (with_reducible exact Below.refl _ _) | (with_reducible refine Below.drew ?_) | (with_reducible refine bmore ?_ _)))); clear q0; obtain ⟨z1, z2, z3, z4, z5, z6⟩ := Hb.out _ qg))
              all_goals
                go_wp2_with fail
                go_meet
                exact ⟨rfl, Lib.hid qg⟩
            case rest =>
              obtain ⟨rfl, G2⟩ := hcut
              clear GR
              cases zb
              · have hz0 := of_decide_eq_false hzb
                clear hzb
                go_upto_region 8 with fail
                go_cut [45] (fun s45 wx => s45 = .bool ze ∧ Hid (Below wr.heap.size wr wx))
                case first =>
                  have GR := G2
                  have hs0 := Hb.out _ (GR.out.drew)
                  clear HR HB TK TM HM OS PL ML HLK D0 HS HTS MK CT INS SKP HN LO G HX HZ HTA HTN
                  go_region_held3 (fun w' => w'.cell? ⟨g, a * 2, none⟩ = some (.string xn) ∧ w'.cell? ⟨g, a * 2 + 1, none⟩ = some (.slice xq xa xd) ∧ w'.cell? ⟨b, o + k * 2, none⟩ = some (.string tn) ∧ w'.cell? ⟨b, o + k * 2 + 1, none⟩ = some (.slice q ta d) ∧ Hid (Below wr.heap.size wr w') ∧ wr.heap.size ≤ w'.heap.size)
                    (first | (with_reducible assumption) | (with_reducible exact ⟨‹_›, ‹_›, ‹_›, ‹_›, ‹_›, ‹_›⟩) | (with_reducible refine Hb.out _ ?_; repeat (first | (with_reducible exact Hid.out (by assumption)) | (with_reducible exact Below.refl _ _) | (with_reducible refine Below.drew ?_) | (with_reducible refine bmore ?_ _))))
                    (first | (go_at_call 37; (try go_split_ands); (with_reducible refine (KK.out _ (by repeat (first | (with_reducible exact Hid.out (by assumption)) | (with_reducible exact Below.refl _ _) | (with_reducible refine Below.drew ?_) | (with_reducible refine bmore ?_ _)))).mono ?_); rintro e w' ⟨rfl, q0⟩; (have qg : Below wr.heap.size wr w' := by (refine next0 ?_ q0; repeat (first | (with_reducible exact Hid.out (by assumption)) | (with_reducible exact Below.refl _ _) | (with_reducible refine Below.drew ?_) | (with_reducible refine bmore ?_ _)))); clear q0; obtain ⟨z1, z2, z3, z4, z5, z6⟩ := Hb.out _ qg))
                  all_goals
                    go_wp2_with fail
                    go_meet
                    exact ⟨rfl, Lib.hid qg⟩
                case rest =>
                  obtain ⟨rfl, G3⟩ := hcut
                  have G := Lib.hid (next0 G.out G3.out)
                  clear KK Hb G2
                  cases ze
                  · have hz1' : z ≠ 0 := by simpa using hze
                    have NEW := Lib.hid (INS.out a LO.out (fun y hy => by
                      rw [HX.out] at hy
                      injection hy with hy
                      rw [← hy, HZ.out]
                      omega))
                    have PN := Lib.hid (fun v => (NEW.out v).1)
                    have MN := Lib.hid (fun v => (NEW.out v).2)
                    clear hze hz1' hz0 NEW INS SKP hgd HX HZ G3 hlta
                    obtain ⟨b2, hb2⟩ : ∃ b2, b2 = wc.heap.size := ⟨_, rfl⟩
                    have HB2 := Lib.hid hb2
                    have hbb : w.heap.size ≤ b2 := by have := G.out.size; have := D0.out.size; omega
                    have N0 : Hid (wc.ownsRow b2 28 2 (.slice none 0 0) 0 []) := Lib.hid (World.ownsRow_nil wc b2 28 2)
                    have O0 := Lib.hid (OS.out.below G.out (Nat.le_trans HB.out D0.out.size))
                    have O1 : OwnS B w.heap.size wc L (.slice (some ⟨g, 0, none⟩) L.length cap) := by rw [HN.out]; exact O0.out
                    have hN1 := Lib.hid (O1.head a)
                    have hN3 := Lib.hid (O1.tail a (by rw [HN.out]; exact ha))
                    have E1 := Lib.hid (one_flat (L := L.take a) (fun x hx => O0.out.2 x (List.mem_of_mem_take hx)))
                    have E3 := Lib.hid (one_flat (L := L.drop a) (fun x hx => O0.out.2 x (List.mem_of_mem_drop hx)))
                    have HF1 : Hid ((flatL (L.take a)).length = a * 2) := Lib.hid (by rw [flatL_len, List.length_take, HN.out]; omega)
                    have HF3 : Hid ((flatL (L.drop a)).length = (n - a) * 2) := Lib.hid (by rw [flatL_len, List.length_drop, HN.out]; try omega)
                    have FL3 : Hid (∀ v : Value, flatL (L.take a ++ (t, v) :: L.drop a) = flatL (L.take a) ++ [.string t.nm, v] ++ flatL (L.drop a)) := Lib.hid (fun v => by rw [flatL_app, List.append_assoc]; rfl)
                    have LL3 : Hid (∀ v : Value, (L.take a ++ (t, v) :: L.drop a).length = 0 + a + 1 + (n - a)) := Lib.hid (fun v => by rw [List.length_append, List.length_cons, List.length_take, List.length_drop, HN.out]; omega)
                    have LN3 : Hid (∀ v : Value, (L.take a ++ (t, v) :: L.drop a).length = n + 1) := Lib.hid (fun v => by rw [LL3.out v]; omega)
                    have AL3 : Hid (∀ v : Value, ∀ x ∈ L.take a ++ (t, v) :: L.drop a, x ∈ L ∨ x = (t, v)) := Lib.hid (fun v x hx => by
                      rcases List.mem_append.1 hx with hx | hx
                      · exact Or.inl (List.mem_of_mem_take hx)
                      · rcases List.mem_cons.1 hx with hx | hx
                        · exact Or.inr hx
                        · exact Or.inl (List.mem_of_mem_drop hx))
                    have A1 : 0 + a ≤ maxLen := by unfold maxLen; omega
                    have A2 : (0 + a) * 40 ≤ 140737488355328 := by omega
                    have A4 : 0 + a + 1 ≤ maxLen := by unfold maxLen; omega
                    have A5 : (0 + a + 1) * 40 ≤ 140737488355328 := by omega
                    have A7 : 0 + a + 1 + (n - a) ≤ maxLen := by unfold maxLen; omega
                    have A8 : (0 + a + 1 + (n - a)) * 40 ≤ 140737488355328 := by omega
                    have hac : a ≤ cap := by omega
                    have hgw : g < wc.heap.size := Nat.lt_of_lt_of_le hg2 G.out.size
                    have SL1 : ∀ W, (Instr.slice 26 (.slice (some ⟨g, 0, none⟩) n cap) none (some (.int .i64 (a : Int))) none).run Tryd.prog W = .ok (.slice (some ⟨g, 0, none⟩) a cap) W := fun W => sl_head g n cap a hac W
                    obtain ⟨ad, SL2, had⟩ : ∃ ad : Addr, (∀ W, (Instr.slice 26 (.slice (some ⟨g, 0, none⟩) n cap) (some (.int .i64 (a : Int))) none none).run Tryd.prog W = .ok (.slice (some ad) (n - a) (cap - a)) W) ∧ (a < n → ad = ⟨g, a * 2, none⟩) := by
                      have h := sl_tail g n cap a ha hg3
                      first | exact h | (rw [Nat.sub_self] at h; exact h)
                    have hN3' := Lib.hid (hN3.out ad (by rw [HN.out]; exact had))
                    clear O1 hN3 had
                    go_upto_region 11 with (at_builtin; refine wpList_append_own _ rfl _ _ 26 rfl b2 28 i0 (.agg #[.string ⟨#[]⟩, .slice none 0 0]) 2 40 Tryd.underlying26 hi hz0 hz1 hz2 rfl (by decide) (.slice none 0 0) 0 [] rfl N0.out ⟨g, 0, none⟩ a cap (flatL (L.take a)) (by first | rfl | (simp; done)) HF1.out hN1.out E1.out A1 A2 (by rw [HB2.out]; exact Nat.le_refl _) ?_; intro v1 w1 hown1 hgrow1 _)
                    have K1 := Lib.hid ((Below.refl wc.heap.size wc).grown hgrow1 (Nat.le_refl _) (fun j hj => by cases hj))
                    have W1 := Lib.hid hown1
                    obtain ⟨y5, y6⟩ := CT.out _ (next0 G.out K1.out)
                    have B3 : b2 ≤ (w1.alloc (.cells #[.string tn, .slice q ta d] 28)).heap.size := by rw [HB2.out]; have := K1.out.size; simp; omega
                    clear hown1 hgrow1
                    go_upto_region 12 with (at_builtin; refine wpList_append_own _ rfl _ _ 26 rfl b2 28 i0 (.agg #[.string ⟨#[]⟩, .slice none 0 0]) 2 40 Tryd.underlying26 hi hz0 hz1 hz2 rfl (by decide) v1 (0 + a) ([] ++ flatL (L.take a)) rfl (W1.out.alloc _) ⟨w1.heap.size, 0, none⟩ 1 1 [.string tn, .slice q ta d] rfl rfl (news2 _ _ _ _) (one2 _ _ _ _) A4 A5 B3 ?_; intro v2 w2 hown2 hgrow2 _)
                    have K2 := Lib.hid ((K1.out.alloc K1.out.size _).grown hgrow2 (by have := K1.out.size; simp; omega) (fun j hj => by have := (W1.out.lt j hj).1; rw [HB2.out] at this; exact this))
                    have W2 := Lib.hid hown2
                    have B4 : b2 ≤ w2.heap.size := by rw [HB2.out]; exact K2.out.size
                    have hN4 : Hid (∀ j u, (flatL (L.drop a))[j]? = some u → w2.cell? (ad.add j) = some u) := Lib.hid (fun j u hj => by
                      have h1 := hN3'.out j u hj
                      have h2 : (ad.add j).block < wc.heap.size := World.block_lt_of_cell? wc _ h1
                      exact (K2.out.cell h2).trans h1)
                    clear hown2 hgrow2 y5 y6 B3
                    go_wp2_with (at_builtin; refine wpList_append_own _ rfl _ _ 26 rfl b2 28 i0 (.agg #[.string ⟨#[]⟩, .slice none 0 0]) 2 40 Tryd.underlying26 hi hz0 hz1 hz2 rfl (by decide) v2 (0 + a + 1) ([] ++ flatL (L.take a) ++ [.string tn, .slice q ta d]) rfl W2.out ad (n - a) (cap - a) (flatL (L.drop a)) (by first | rfl | (simp; done)) HF3.out hN4.out E3.out A7 A8 B4 ?_; intro v3 w3 hown3 hgrow3 _)
                    have K3 := Lib.hid (K2.out.grown hgrow3 K2.out.size (fun j hj => by have := (W2.out.lt j hj).1; rw [HB2.out] at this; exact this))
                    have W3 := Lib.hid hown3
                    clear hown3 hgrow3
                    have O3 : Hid (OwnS B w.heap.size w3 (L.take a ++ (t, .slice q ta d) :: L.drop a) v3) := Lib.hid ⟨TermF.own_mono (by rw [FL3.out, LL3.out, HTN.out]; exact W3.out) hbb, fun x hx => by
                      rcases AL3.out _ x hx with hx | rfl
                      · exact ⟨(O0.out.2 x hx).1.deep K3.out (by have := G.out.size; have := D0.out.size; have := HB.out; omega), (O0.out.2 x hx).2⟩
                      · exact ⟨HS.out.deep (next0 G.out K3.out) (Nat.le_trans HB.out D0.out.size), by show t.nm.size ≤ maxLen; rw [HTN.out]; exact HTS.out⟩⟩
                    have D3 := Lib.hid (D0.out.trans ((next0 G.out K3.out).mono D0.out.size))
                    go_wp2_with fail
                    go_roundw
                    case rel => exact ⟨k + 1, L.take a ++ (t, .slice q ta d) :: L.drop a, by omega, by go_num, O3, PN.out _, MN.out _, Lib.hid (by rw [LN3.out]; have := HLK.out; omega), D3⟩
                    case measure => simp [intOf]; omega
                  · have SK2 := Lib.hid (SKP.out x.1 (List.mem_of_getElem? HX.out) (by rw [HZ.out]; simpa using hze))
                    clear hze hz0 INS SKP hgd HX HZ G3 hlta
                    have D3 := Lib.hid (D0.out.trans (G.out.mono D0.out.size))
                    have O3 := Lib.hid (OS.out.below G.out (Nat.le_trans HB.out D0.out.size))
                    go_wp2_with fail
                    go_roundw
                    case rel => exact ⟨k + 1, L, by omega, by go_num, O3, PL, SK2, Lib.hid (by have := HLK.out; have := HN.out; omega), D3⟩
                    case measure => simp [intOf]; omega
              · have hz0 := of_decide_eq_true hzb
                have LO2 : Hid (∀ j x, j < a + 1 → (L.map (·.1))[j]? = some x → cmpT x t < 0) := Lib.hid (fun j y hj hy => by
                  by_cases e : j = a
                  · subst e
                    rw [HX.out] at hy
                    injection hy with hy
                    rw [← hy, HZ.out]
                    exact hz0
                  · exact LO.out j y (by omega) hy)
                have G4 := Lib.hid (next0 G.out G2.out)
                clear hzb hz0 hze
                go_wp2_with fail
                go_roundw
                case rel => exact ⟨a + 1, by omega, by go_num, LO2, G4⟩
                case measure => simp [intOf]; omega
          · obtain rfl : a = n := by omega
            have hgd : decide (a < a) = false := by simp
            go_upto_region 6 with fail
            go_cut [27] (fun s27 wx => s27 = .bool false ∧ Hid (Below W0.heap.size W0 wx))
            case first =>
              go_quiet (fail)
              all_goals
                go_wp2_with fail
                go_meet
                exact ⟨rfl, Lib.hid (by first | exact below_drewN G.out _ | exact G.out.drew | exact G.out)⟩
            case rest =>
              obtain ⟨rfl, G⟩ := hcut
              go_upto_region 8 with fail
              go_cut [45] (fun s45 wx => s45 = .bool false ∧ Hid (Below W0.heap.size W0 wx))
              case first =>
                go_quiet (fail)
                all_goals
                  go_wp2_with fail
                  go_meet
                  exact ⟨rfl, Lib.hid (by first | exact below_drewN G.out _ | exact G.out.drew | exact G.out)⟩
              case rest =>
                obtain ⟨rfl, G⟩ := hcut
                have NEW := Lib.hid (INS.out a LO.out (fun y hy => by
                  have := (List.getElem?_eq_some_iff.1 hy).1
                  rw [List.length_map, HN.out] at this
                  omega))
                have PN := Lib.hid (fun v => (NEW.out v).1)
                have MN := Lib.hid (fun v => (NEW.out v).2)
                clear NEW INS SKP hgd hlta y3 y4 KC
                obtain ⟨b2, hb2⟩ : ∃ b2, b2 = wc.heap.size := ⟨_, rfl⟩
                have HB2 := Lib.hid hb2
                have hbb : w.heap.size ≤ b2 := by have := G.out.size; have := D0.out.size; omega
                have N0 : Hid (wc.ownsRow b2 28 2 (.slice none 0 0) 0 []) := Lib.hid (World.ownsRow_nil wc b2 28 2)
                have O0 := Lib.hid (OS.out.below G.out (Nat.le_trans HB.out D0.out.size))
                have O1 : OwnS B w.heap.size wc L (.slice (some ⟨g, 0, none⟩) L.length cap) := by rw [HN.out]; exact O0.out
                have hN1 := Lib.hid (O1.head a)
                have hN3 := Lib.hid (O1.tail a (by rw [HN.out]; exact ha))
                have E1 := Lib.hid (one_flat (L := L.take a) (fun x hx => O0.out.2 x (List.mem_of_mem_take hx)))
                have E3 := Lib.hid (one_flat (L := L.drop a) (fun x hx => O0.out.2 x (List.mem_of_mem_drop hx)))
                have HF1 : Hid ((flatL (L.take a)).length = a * 2) := Lib.hid (by rw [flatL_len, List.length_take, HN.out]; omega)
                have HF3 : Hid ((flatL (L.drop a)).length = 0 * 2) := Lib.hid (by rw [flatL_len, List.length_drop, HN.out]; try omega)
                have FL3 : Hid (∀ v : Value, flatL (L.take a ++ (t, v) :: L.drop a) = flatL (L.take a) ++ [.string t.nm, v] ++ flatL (L.drop a)) := Lib.hid (fun v => by rw [flatL_app, List.append_assoc]; rfl)
                have LL3 : Hid (∀ v : Value, (L.take a ++ (t, v) :: L.drop a).length = 0 + a + 1 + 0) := Lib.hid (fun v => by rw [List.length_append, List.length_cons, List.length_take, List.length_drop, HN.out]; omega)
                have LN3 : Hid (∀ v : Value, (L.take a ++ (t, v) :: L.drop a).length = a + 1) := Lib.hid (fun v => by rw [LL3.out v]; omega)
                have AL3 : Hid (∀ v : Value, ∀ x ∈ L.take a ++ (t, v) :: L.drop a, x ∈ L ∨ x = (t, v)) := Lib.hid (fun v x hx => by
                  rcases List.mem_append.1 hx with hx | hx
                  · exact Or.inl (List.mem_of_mem_take hx)
                  · rcases List.mem_cons.1 hx with hx | hx
                    · exact Or.inr hx
                    · exact Or.inl (List.mem_of_mem_drop hx))
                have A1 : 0 + a ≤ maxLen := by unfold maxLen; omega
                have A2 : (0 + a) * 40 ≤ 140737488355328 := by omega
                have A4 : 0 + a + 1 ≤ maxLen := by unfold maxLen; omega
                have A5 : (0 + a + 1) * 40 ≤ 140737488355328 := by omega
                have A7 : 0 + a + 1 + 0 ≤ maxLen := by unfold maxLen; omega
                have A8 : (0 + a + 1 + 0) * 40 ≤ 140737488355328 := by omega
                have hac : a ≤ cap := by omega
                have hgw : g < wc.heap.size := Nat.lt_of_lt_of_le hg2 G.out.size
                have SL1 : ∀ W, (Instr.slice 26 (.slice (some ⟨g, 0, none⟩) a cap) none (some (.int .i64 (a : Int))) none).run Tryd.prog W = .ok (.slice (some ⟨g, 0, none⟩) a cap) W := fun W => sl_head g a cap a hac W
                obtain ⟨ad, SL2, had⟩ : ∃ ad : Addr, (∀ W, (Instr.slice 26 (.slice (some ⟨g, 0, none⟩) a cap) (some (.int .i64 (a : Int))) none none).run Tryd.prog W = .ok (.slice (some ad) 0 (cap - a)) W) ∧ (a < a → ad = ⟨g, a * 2, none⟩) := by
                  have h := sl_tail g a cap a ha hg3
                  first | exact h | (rw [Nat.sub_self] at h; exact h)
                have hN3' := Lib.hid (hN3.out ad (by rw [HN.out]; exact had))
                clear O1 hN3 had
                go_upto_region 11 with (at_builtin; refine wpList_append_own _ rfl _ _ 26 rfl b2 28 i0 (.agg #[.string ⟨#[]⟩, .slice none 0 0]) 2 40 Tryd.underlying26 hi hz0 hz1 hz2 rfl (by decide) (.slice none 0 0) 0 [] rfl N0.out ⟨g, 0, none⟩ a cap (flatL (L.take a)) (by first | rfl | (simp; done)) HF1.out hN1.out E1.out A1 A2 (by rw [HB2.out]; exact Nat.le_refl _) ?_; intro v1 w1 hown1 hgrow1 _)
                have K1 := Lib.hid ((Below.refl wc.heap.size wc).grown hgrow1 (Nat.le_refl _) (fun j hj => by cases hj))
                have W1 := Lib.hid hown1
                obtain ⟨y5, y6⟩ := CT.out _ (next0 G.out K1.out)
                have B3 : b2 ≤ (w1.alloc (.cells #[.string tn, .slice q ta d] 28)).heap.size := by rw [HB2.out]; have := K1.out.size; simp; omega
                clear hown1 hgrow1
                go_upto_region 12 with (at_builtin; refine wpList_append_own _ rfl _ _ 26 rfl b2 28 i0 (.agg #[.string ⟨#[]⟩, .slice none 0 0]) 2 40 Tryd.underlying26 hi hz0 hz1 hz2 rfl (by decide) v1 (0 + a) ([] ++ flatL (L.take a)) rfl (W1.out.alloc _) ⟨w1.heap.size, 0, none⟩ 1 1 [.string tn, .slice q ta d] rfl rfl (news2 _ _ _ _) (one2 _ _ _ _) A4 A5 B3 ?_; intro v2 w2 hown2 hgrow2 _)
                have K2 := Lib.hid ((K1.out.alloc K1.out.size _).grown hgrow2 (by have := K1.out.size; simp; omega) (fun j hj => by have := (W1.out.lt j hj).1; rw [HB2.out] at this; exact this))
                have W2 := Lib.hid hown2
                have B4 : b2 ≤ w2.heap.size := by rw [HB2.out]; exact K2.out.size
                have hN4 : Hid (∀ j u, (flatL (L.drop a))[j]? = some u → w2.cell? (ad.add j) = some u) := Lib.hid (fun j u hj => by
                  have h1 := hN3'.out j u hj
                  have h2 : (ad.add j).block < wc.heap.size := World.block_lt_of_cell? wc _ h1
                  exact (K2.out.cell h2).trans h1)
                clear hown2 hgrow2 y5 y6 B3
                go_wp2_with (at_builtin; refine wpList_append_own _ rfl _ _ 26 rfl b2 28 i0 (.agg #[.string ⟨#[]⟩, .slice none 0 0]) 2 40 Tryd.underlying26 hi hz0 hz1 hz2 rfl (by decide) v2 (0 + a + 1) ([] ++ flatL (L.take a) ++ [.string tn, .slice q ta d]) rfl W2.out ad 0 (cap - a) (flatL (L.drop a)) (by first | rfl | (simp; done)) HF3.out hN4.out E3.out A7 A8 B4 ?_; intro v3 w3 hown3 hgrow3 _)
                have K3 := Lib.hid (K2.out.grown hgrow3 K2.out.size (fun j hj => by have := (W2.out.lt j hj).1; rw [HB2.out] at this; exact this))
                have W3 := Lib.hid hown3
                clear hown3 hgrow3
                have O3 : Hid (OwnS B w.heap.size w3 (L.take a ++ (t, .slice q ta d) :: L.drop a) v3) := Lib.hid ⟨TermF.own_mono (by rw [FL3.out, LL3.out, HTN.out]; exact W3.out) hbb, fun x hx => by
                  rcases AL3.out _ x hx with hx | rfl
                  · exact ⟨(O0.out.2 x hx).1.deep K3.out (by have := G.out.size; have := D0.out.size; have := HB.out; omega), (O0.out.2 x hx).2⟩
                  · exact ⟨HS.out.deep (next0 G.out K3.out) (Nat.le_trans HB.out D0.out.size), by show t.nm.size ≤ maxLen; rw [HTN.out]; exact HTS.out⟩⟩
                have D3 := Lib.hid (D0.out.trans ((next0 G.out K3.out).mono D0.out.size))
                go_wp2_with fail
                go_roundw
                case rel => exact ⟨k + 1, L.take a ++ (t, .slice q ta d) :: L.drop a, by omega, by go_num, O3, PN.out _, MN.out _, Lib.hid (by rw [LN3.out]; have := HLK.out; omega), D3⟩
                case measure => simp [intOf]; omega
    · obtain rfl : k = m := by omega
      rw [TM.out] at ML
      have hfin := Lib.hid (OS.out.slin (Nat.le_trans HB.out D0.out.size))
      rcases OS.out.form with ⟨rfl, rfl⟩ | ⟨g, cap, rfl, hg1, hg2, hg3⟩
      all_goals
        go_wp2_with fail
        go_ret
        exact ⟨_, _, rfl, PL.out, ML.out, hfin.out, D0.out⟩
end TermSo
end Go.Proofs.YtgfdplmilichiaaDoor
