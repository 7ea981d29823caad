/- The reference's tidy: the body is arranged by insertion. Conditions: at most a thousand literals. -/
import Derived.Test.YtdkpflojdnkbnaaGreatDoorHBA
import Derived.Test.YtdkpflojdnkbnaaGreatDoorHAQ
import Derived.Test.YtdkpflojdnkbnaaGreatDoorHAN
import Derived.Test.YtdkpflojdnkbnaaGreatDoorHAJ
import Derived.Test.YtdkpflojdnkbnaaGreatDoorHBF
import Derived.Laws.AppendOwnNone
import Derived.Deep.RegionHeld3
import Derived.Deep.DeepCutAuto
namespace Go.Proofs.YtdkpflojdnkbnaaGreatDoor
open Go Go.RowKit
namespace NolK
open Kit LexM TermM TermI TermN TermU UniK UniM UnpP LigU LigY UnqA UnqB NorM NorR
/-! ### Plain facts -/
theorem own_formL {base n : Nat} {w : World} {v : Value} {cs : List Value} (h : w.ownsRow base KL.ty 3 v n cs) : ∃ a c, v = .slice a n c := by
  rcases h.2 with ⟨e, hz⟩ | ⟨g, cap, cur, e, _⟩
  · exact ⟨none, 0, by rw [e, hz]⟩
  · exact ⟨_, cap, e⟩
theorem row_mixL {base B : Nat} {w : World} {L : List (Lt × Value)} {v : Value} (h1 : w.ownsRow base KL.ty 3 v L.length (KL.flat L)) (hB : B ≤ w.heap.size) (h3 : ∀ x ∈ L, KL.inn (· < B) w x) : LIn (· < w.heap.size) w (L.map (·.1)) v := by
  have hl := h1.lt
  have h3' : ∀ x ∈ L, KL.inn (· < w.heap.size) w x := fun x hx => KL.wide (h3 x hx) fun b hk => Nat.lt_of_lt_of_le hk hB
  refine ⟨L, rfl, ?_⟩
  rcases h1.2 with ⟨e, hz⟩ | ⟨g, cap, cur, e, e2, e3, e4, e5, _⟩
  · exact ⟨none, 0, by rw [e, hz], by omega, Nat.zero_le _, h3', fun h => by omega⟩
  · subst e
    refine ⟨_, cap, rfl, e4, e5, h3', fun _ => ⟨g, 0, rfl, (hl g rfl).2, fun i x hx j u hu => ?_⟩⟩
    have hi := (List.getElem?_eq_some_iff.1 hx).1
    have hj := (List.getElem?_eq_some_iff.1 hu).1
    rw [KL.len] at hj
    rw [show 0 + i * 3 + j = i * 3 + j by omega]
    exact (h1.cellAt _ (by omega)).trans (flat_get L i x hx j u hu)
theorem row_kind {base : Nat} {ok0 : Nat → Prop} {w : World} {L : List (Lt × Value)} {v : Value} (h1 : w.ownsRow base KL.ty 3 v L.length (KL.flat L)) (h3 : ∀ x ∈ L, KL.inn ok0 w x) : LIn (fun b => ok0 b ∨ (base ≤ b ∧ b < w.heap.size)) w (L.map (·.1)) v := by
  have hl := h1.lt
  have h3' : ∀ x ∈ L, KL.inn (fun b => ok0 b ∨ (base ≤ b ∧ b < w.heap.size)) w x := fun x hx => KL.wide (h3 x hx) fun b hk => Or.inl hk
  refine ⟨L, rfl, ?_⟩
  rcases h1.2 with ⟨e, hz⟩ | ⟨g, cap, cur, e, e2, e3, e4, e5, _⟩
  · exact ⟨none, 0, by rw [e, hz], by omega, Nat.zero_le _, h3', fun h => by omega⟩
  · subst e
    refine ⟨_, cap, rfl, e4, e5, h3', fun _ => ⟨g, 0, rfl, Or.inr (hl g rfl), fun i x hx j u hu => ?_⟩⟩
    have hi := (List.getElem?_eq_some_iff.1 hx).1
    have hj := (List.getElem?_eq_some_iff.1 hu).1
    rw [KL.len] at hj
    rw [show 0 + i * 3 + j = i * 3 + j by omega]
    exact (h1.cellAt _ (by omega)).trans (flat_get L i x hx j u hu)
theorem lt_chain {ex ex' : Nat → Prop} {a b c : World} (h : Lt ex a b) (g : Lt ex' b c) (hx : ∀ i, ex' i → ex i ∨ a.heap.size ≤ i) : Lt ex a c :=
  ⟨g.os.trans h.os, g.tape.trans h.tape, g.output.trans h.output, Nat.le_trans h.size g.size, fun i hi hn => (g.block i (Nat.lt_of_lt_of_le hi h.size) (fun e => by rcases hx i e with e | e; exact hn e; omega)).trans (h.block i hi hn)⟩
theorem own_lt {base n : Nat} {ex : Nat → Prop} {w w' : World} {e : TypeId} {s : Nat} {v : Value} {xs : List Value} (h : w.ownsRow base e s v n xs) (g : Lt ex w w') (hx : ∀ k, v.ownBlock = some k → ¬ ex k) : w'.ownsRow base e s v n xs := by
  have hl := h.lt
  refine ⟨h.1, ?_⟩
  rcases h.2 with h | ⟨k, cap, cur, e1, e2, e3, e4⟩
  · exact Or.inl h
  · exact Or.inr ⟨k, cap, cur, e1, e2, (g.block k (hl k (by rw [e1]; rfl)).2 (hx k (by rw [e1]; rfl))).trans e3, e4⟩
def tid (l : List Lt) (k : Nat) : List Lt := (l.take k).foldl (fun a x => insL x a) []
theorem tid_next {l : List Lt} {k : Nat} {x : Lt} (h : l[k]? = some x) : tid l (k + 1) = insL x (tid l k) := by
  unfold tid
  rw [take_get l k x h, List.foldl_append]
  rfl
theorem tid_all (l : List Lt) : tid l l.length = arrL l := by unfold tid arrL; rw [List.take_length]
theorem ins_len (x : Lt) : ∀ m : List Lt, (insL x m).length ≤ m.length + 1
  | [] => by simp [insL]
  | y :: m => by
    have := ins_len x m
    unfold insL
    split
    · simp
    · split
      · simp
      · simp only [List.length_cons]; omega
theorem tid_len (l : List Lt) : ∀ k, (tid l k).length ≤ k
  | 0 => by simp [tid]
  | k + 1 => by
    by_cases h : k < l.length
    · rw [tid_next (l := l) (k := k) (x := l[k]) (by simp [h])]
      have := ins_len l[k] (tid l k)
      have := tid_len l k
      omega
    · have e : tid l (k + 1) = tid l k := by unfold tid; rw [List.take_of_length_le (by omega), List.take_of_length_le (by omega)]
      rw [e]
      have := tid_len l k
      omega
theorem ins_at (x : Lt) : ∀ (m : List Lt) (i : Nat), (∀ j y, j < i → m[j]? = some y → cmpLt y x < 0) → i ≤ m.length →
    (∀ y, m[i]? = some y → cmpLt y x = 0 → insL x m = m) ∧ ((∀ y, m[i]? = some y → 0 < cmpLt y x) → insL x m = m.take i ++ x :: m.drop i)
  | [], i, _, hi => by
    obtain rfl : i = 0 := by simpa using hi
    exact ⟨fun y h => by simp at h, fun _ => by simp [insL]⟩
  | a :: m, 0, _, _ => by
    have h := lt_neg a x
    refine ⟨fun y hy e => ?_, fun hy => ?_⟩
    · obtain rfl : a = y := by simpa using hy
      unfold insL
      rw [if_neg (by omega), if_pos (by omega)]
    · have := hy a rfl
      unfold insL
      rw [if_pos (by omega)]
      rfl
  | a :: m, i + 1, hl, hi => by
    have h := lt_neg a x
    have h0 := hl 0 a (by omega) rfl
    obtain ⟨h1, h2⟩ := ins_at x m i (fun j y hj hy => hl (j + 1) y (by omega) (by simpa using hy)) (by simpa using hi)
    have e : insL x (a :: m) = a :: insL x m := by
      rw [insL, if_neg (by omega), if_neg (by omega)]
    refine ⟨fun y hy he => ?_, fun hy => ?_⟩
    · rw [e, h1 y (by simpa using hy) he]
    · rw [e, h2 (fun y h => hy y (by simpa using h))]
      rfl
theorem own_base {base base' n : Nat} {w : World} {e : TypeId} {s : Nat} {v : Value} {xs : List Value} (h : w.ownsRow base e s v n xs) (hb : base' ≤ base) : w.ownsRow base' e s v n xs := by
  refine ⟨h.1, ?_⟩
  rcases h.2 with h | ⟨g, cap, cur, e1, e2, e3⟩
  · exact Or.inl h
  · exact Or.inr ⟨g, cap, cur, e1, Nat.le_trans hb e2, e3⟩
theorem flat_take (L : List (Lt × Value)) (i : Nat) : KL.flat (L.take i) ++ KL.flat (L.drop i) = KL.flat L := by rw [← flat_app, List.take_append_drop]
theorem one_all (L : List (Lt × Value)) (h : ∀ x ∈ L, ∃ q n c, x.2 = .slice q n c) : ∀ u ∈ KL.flat L, u.oneCell' = true := by
  intro u hu
  unfold Kd.flat at hu
  obtain ⟨x, hx, hu⟩ := List.mem_flatMap.1 hu
  obtain ⟨q, n, c, e⟩ := h x hx
  have hu' : u ∈ [Value.bool x.1.1, .string x.1.2.nm, x.2] := hu
  rw [e] at hu'
  exact one_L _ _ _ _ _ u hu'
/-- Part of a row of literals in memory. -/
theorem part_cells {base g c n : Nat} {w : World} {L : List (Lt × Value)} (h : w.ownsRow base KL.ty 3 (.slice (some ⟨g, 0, none⟩) n c) n (KL.flat L)) (hn : n = L.length) (i : Nat) (M : List (Lt × Value)) (hi : i ≤ L.length) (hM : ∃ s, L.drop i = M ++ s) :
    ∀ j u, (KL.flat M)[j]? = some u → w.cell? ((⟨g, i * 3, none⟩ : Addr).add j) = some u := by
  subst hn
  intro j u hu
  obtain ⟨s, hs⟩ := hM
  have hj := (List.getElem?_eq_some_iff.1 hu).1
  rw [flat_len] at hj
  have hl : M.length + s.length = L.length - i := by rw [← List.length_append, ← hs, List.length_drop]
  have e : (KL.flat L)[i * 3 + j]? = some u := by
    rw [← flat_take L i, List.getElem?_append_right (by rw [flat_len, List.length_take]; omega), flat_len, List.length_take, Nat.min_eq_left hi, show i * 3 + j - i * 3 = j by omega, hs, flat_app, List.getElem?_append_left (by rw [flat_len]; exact hj)]
    exact hu
  have := (h.cellAt (i * 3 + j) (by omega)).trans e
  by_cases h0 : j = 0
  · subst h0
    simpa [Addr.add] using this
  · simpa [Addr.add, h0] using this
set_option maxRecDepth 100000 in
set_option maxHeartbeats 6400000 in
theorem tidy_any (h : Tm) (l : List Lt) (ok0 : Nat → Prop) (B : Nat) (hok : ∀ b, ok0 b → b < B) (w : World) (hv lv : Value) (hB : B ≤ w.heap.size) (hh : SlIn (· < w.heap.size) w h.args hv) (hl : LIn ok0 w l lv) (hll : l.length ≤ 1000) :
    Calls Tryz.prog 43 #[.agg #[.string h.nm, hv, lv]] w fun e w' => ∃ v, e = .returned (.agg #[.string h.nm, hv, v]) ∧ LIn (fun b => ok0 b ∨ (w.heap.size ≤ b ∧ b < w'.heap.size)) w' (arrL l) v ∧ Below w.heap.size w w' := by
  obtain ⟨i0, hi0, hi1, hi2, hi3⟩ := info_parts Tryz.infoL
  obtain ⟨pa, ca, rfl⟩ := hh.form
  obtain ⟨qa, da, rfl⟩ := hl.form
  obtain ⟨R, hR⟩ : ∃ m, m = w.heap.size + 1 + 1 := ⟨_, rfl⟩
  obtain ⟨W9, hW9⟩ : ∃ W9, W9 = ((w.alloc (.cells #[.string h.nm, .slice pa h.args.length ca, .slice qa l.length da] 27)).alloc (.cells #[.string ⟨#[]⟩, .slice none 0 0, .slice none 0 0] 27)).alloc (.cells #[.string h.nm, .slice pa h.args.length ca, .slice none 0 0] 27) := ⟨_, rfl⟩
  have hz9 : W9.heap.size = R + 1 := by rw [hW9, hR]; simp
  have D9 : Hid (Below w.heap.size w W9) := Lib.hid (by rw [hW9]; exact next0 (next0 (below_alloc _ _) (below_alloc _ _)) (below_alloc _ _))
  have HP : Hid (Has W9 w.heap.size #[.string h.nm, .slice pa h.args.length ca, .slice qa l.length da]) := Lib.hid (by rw [hW9]; exact ((Has.new _ _ _).alloc _).alloc _)
  have HR0 : Hid (Has W9 R #[.string h.nm, .slice pa h.args.length ca, .slice none 0 0]) := Lib.hid (by
    have e : R = ((w.alloc (.cells #[.string h.nm, .slice pa h.args.length ca, .slice qa l.length da] 27)).alloc (.cells #[.string ⟨#[]⟩, .slice none 0 0, .slice none 0 0] 27)).heap.size := by rw [hR]; simp
    rw [hW9, e]; exact Has.new _ _ _)
  have LY := Lib.hid (hl.keep (w' := W9) fun b o hb => D9.out.cell (p := ⟨b, o, none⟩) (Nat.lt_of_lt_of_le (hok b hb) hB))
  have hBR : B ≤ R := by omega
  have hwR : w.heap.size + 1 < R := by omega
  have HQ0 : Hid (Has W9 (w.heap.size + 1) #[.string ⟨#[]⟩, .slice none 0 0, .slice none 0 0]) := Lib.hid (by rw [hW9]; exact (Has.new1 _ _ _ _).alloc _)
  clear hh hl
  have TN := Lib.hid (fun k x (hx : l[k]? = some x) => tid_next (l := l) hx)
  have TL := Lib.hid (fun k => tid_len l k)
  have TA := Lib.hid (tid_all l)
  generalize h.nm = hn at *
  generalize h.args.length = hln at *
  generalize hnl : l.length = n at *
  have HNL := Lib.hid hnl
  clear hnl
  obtain ⟨y1, y2, y3, y4, y5, y6, y7⟩ := UnpP.has3 HP.out
  go_enter Tryz.func43, Tryz.ntmps43
  go_upto_region 2 with fail
  rw [← hW9, ← hR]
  clear hW9 hR y1 y2 y3 y4 y5 y6 y7
  go_wp2_with fail
  go_loopw [4] (fun i wr => ∃ (k : Nat) (F : List (Lt × Value)) (v : Value), k ≤ n ∧ i = .int .i64 k ∧ Hid (F.map (·.1) = tid l k) ∧ Hid (wr.ownsRow (R + 1) KL.ty 3 v F.length (KL.flat F)) ∧ Hid (∀ z ∈ F, KL.inn ok0 W9 z) ∧ Hid (Has wr R #[.string hn, .slice pa hln ca, v]) ∧ Hid (Lt (fun b => b = R) W9 wr)) (fun i _ => n - (intOf i).toNat)
  case atStart => exact ⟨0, [], _, Nat.zero_le _, rfl, Lib.hid (by simp [tid]), Lib.hid (OwnG.nil (K := KL) _ _).1, Lib.hid (by simp), HR0, Lib.hid (Lt.of (Below.refl _ _))⟩
  case round =>
    clear HR0
    obtain ⟨k, F, v, hk, rfl, hF, hO, hI, hH, hX⟩ := hrel
    have HPr := Lib.hid (hX.out.has HP.out (show ¬ w.heap.size = R by omega))
    obtain ⟨va, vc, rfl⟩ := own_formL hO.out
    obtain ⟨p1, p2, p3, p4, p5, p6, p7⟩ := UnpP.has3 HPr.out
    have hzr := hX.out.size
    by_cases hlt : k < n
    · obtain ⟨z, g, o, q5, d5, hr, rfl, hgB, b1, b2, b3, hs, hrn⟩ := lin_row LY.out k (by rw [HNL.out]; exact hlt)
      have hgB' : g < B := hok g hgB
      have hBR' : B ≤ R := hBR
      have c1 := (hX.out.cell (o := o + k * 3) (show g < W9.heap.size by omega) (show ¬ g = R by omega)).trans b1
      have c2 := (hX.out.cell (o := o + k * 3 + 1) (show g < W9.heap.size by omega) (show ¬ g = R by omega)).trans b2
      have c3 := (hX.out.cell (o := o + k * 3 + 1 + 1) (show g < W9.heap.size by omega) (show ¬ g = R by omega)).trans b3
      have hFk : Hid (F.length ≤ k) := Lib.hid (by have h1 := TL.out k; rw [← hF.out, List.length_map] at h1; exact h1)
      have hFl : F.length ≤ 1000 := by have := hFk.out; omega
      have hT := Lib.hid ((TN.out k z hr).trans (by rw [← hF.out]))
      have HS := Lib.hid hs
      have HN := Lib.hid hrn
      have hO8 : Hid (∀ (w' : World) (v' : Value) (S n : Nat) (A D : List (Lt × Value)), n = (A ++ (z, Value.slice q5 z.2.args.length d5) :: D).length → w'.ownsRow S KL.ty 3 v' n (KL.flat A ++ [.bool z.1, .string z.2.nm, .slice q5 z.2.args.length d5] ++ KL.flat D) → w'.ownsRow S KL.ty 3 v' (A ++ (z, Value.slice q5 z.2.args.length d5) :: D).length (KL.flat (A ++ (z, Value.slice q5 z.2.args.length d5) :: D))) := Lib.hid (fun w' v' S n A D e h => by
        have e2 : KL.flat (A ++ (z, Value.slice q5 z.2.args.length d5) :: D) = KL.flat A ++ [.bool z.1, .string z.2.nm, .slice q5 z.2.args.length d5] ++ KL.flat D := by
          rw [flat_app, List.append_assoc]
          rfl
        rw [← e, e2]; exact h)
      have hM8 : Hid (∀ A D : List (Lt × Value), (A ++ (z, Value.slice q5 z.2.args.length d5) :: D).map (·.1) = A.map (·.1) ++ z :: D.map (·.1)) := Lib.hid (fun A D => by simp)
      have hI8 : Hid (KL.inn ok0 W9 (z, Value.slice q5 z.2.args.length d5)) := Lib.hid ⟨hs, hrn⟩
      clear b1 b2 b3 hs hrn hr
      obtain ⟨W5, hW5⟩ : ∃ u, u = wr.alloc (.cells #[.bool z.1, .string z.2.nm, .slice q5 z.2.args.length d5] 47) := ⟨_, rfl⟩
      obtain ⟨X5, hX5⟩ : ∃ m, m = wr.heap.size := ⟨_, rfl⟩
      have J5 : Hid (Below wr.heap.size wr W5) := Lib.hid (by rw [hW5]; exact below_alloc _ _)
      have HB5 : Hid (Has W5 X5 #[.bool z.1, .string z.2.nm, .slice q5 z.2.args.length d5]) := Lib.hid (by rw [hW5, hX5]; exact Has.new _ _ _)
      have hz5 : W5.heap.size = X5 + 1 := by rw [hW5, hX5]; simp
      have hXR : R + 1 ≤ X5 := by omega
      have X9 := Lib.hid (Lt.below hX.out J5.out)
      have O5 := Lib.hid (own_lt (ex := fun _ => False) hO.out (Lt.of J5.out) (fun _ _ h => h))
      have H5 := Lib.hid (hH.out.step0 J5.out)
      have hvl : Hid (∀ j, (Value.slice va F.length vc).ownBlock = some j → R + 1 ≤ j ∧ j < W5.heap.size) := Lib.hid O5.out.lt
      have RL := Lib.hid (fun (y : Lt) (q8 : Option Addr) (d8 : Nat) (h1 : SlIn ok0 W9 y.2.args (.slice q8 y.2.args.length d8)) (h2 : y.2.nm.size ≤ maxLen) w' (k : Below W5.heap.size W5 w') => NorG.rlit_any y z B w' _ _ (by have := k.size; omega) ((h1.weaken (ok' := (· < B)) hok).frame fun b o (hb : b < B) => ((X9.out.below k).cell (o := o) (show b < W9.heap.size by omega) (show ¬ b = R by omega))) ((HS.out.weaken (ok' := (· < B)) hok).frame fun b o (hb : b < B) => ((X9.out.below k).cell (o := o) (show b < W9.heap.size by omega) (show ¬ b = R by omega))) h2 HN.out)
      clear hO hH hX
      generalize hzl : (z, Value.slice q5 z.2.args.length d5) = zl at *
      clear hzl
      generalize z.1 = zb at *
      generalize z.2.nm = zn at *
      generalize z.2.args.length = za at *
      go_upto_region 6 with fail
      rw [← hW5, ← hX5]
      clear hW5 hX5 c1 c2 c3 p1 p2 p3 p4 p5 p6 p7 J5
      go_wp2_with fail
      have Q0 : Hid (Below W5.heap.size W5 W5) := Lib.hid (Below.refl _ _)
      go_loopw [6] (fun i wq => ∃ at_ : Nat, at_ ≤ F.length ∧ i = .int .i64 at_ ∧ Hid (∀ j y, j < at_ → (F.map (·.1))[j]? = some y → cmpLt y z < 0) ∧ Hid (Below W5.heap.size W5 wq)) (fun i _ => F.length - (intOf i).toNat)
      case atStart => exact ⟨0, Nat.zero_le _, rfl, Lib.hid (fun j y hj => by omega), Q0⟩
      case round =>
        clear Q0
        obtain ⟨at_, hat, rfl, hA, hQ⟩ := hrel
        by_cases ha : at_ < F.length
        · obtain ⟨gv, hgv⟩ : ∃ gv, va = some ⟨gv, 0, none⟩ := by
            rcases O5.out.2 with ⟨e, hz⟩ | ⟨gv, cap, cur, e, _⟩
            · omega
            · injection e with e1 _ _; exact ⟨gv, e1⟩
          subst hgv
          obtain ⟨y, hy⟩ : ∃ y, F[at_]? = some y := ⟨F[at_], by simp⟩
          have hin := hI.out y (List.mem_of_getElem? hy)
          obtain ⟨q8, d8, hyv⟩ := hin.1.form
          have OQ := Lib.hid (fun w' (k : Below W5.heap.size W5 w') => own_lt (ex := fun _ => False) O5.out (Lt.of k) (fun _ _ h => h))
          have Hb : Hid (∀ w', Below W5.heap.size W5 w' → w'.cell? ⟨R, 2, none⟩ = some (.slice (some ⟨gv, 0, none⟩) F.length vc) ∧ w'.cell? ⟨gv, at_ * 3, none⟩ = some (.bool y.1.1) ∧ w'.cell? ⟨gv, at_ * 3 + 1, none⟩ = some (.string y.1.2.nm) ∧ w'.cell? ⟨gv, at_ * 3 + 1 + 1, none⟩ = some (.slice q8 y.1.2.args.length d8) ∧ w'.cell? ⟨X5, 0, none⟩ = some (.bool zb) ∧ w'.cell? ⟨X5, 1, none⟩ = some (.string zn) ∧ w'.cell? ⟨X5, 2, none⟩ = some (.slice q5 za d5)) := Lib.hid (fun w' k => by
            have h1 := H5.out.step0 k
            have h2 := HB5.out.step0 k
            have h3 := OQ.out w' k
            exact ⟨h1.cell 2, (h3.cellAt (at_ * 3 + 0) (by omega)).trans (flat_get F at_ y hy 0 _ rfl), (h3.cellAt (at_ * 3 + 1) (by omega)).trans (flat_get F at_ y hy 1 _ rfl), ((h3.cellAt (at_ * 3 + 2) (by omega)).trans (flat_get F at_ y hy 2 _ rfl)).trans (by rw [hyv]), h2.cell 0, h2.cell 1, h2.cell 2⟩)
          have KK := Lib.hid (RL.out y.1 q8 d8 (by rw [← hyv]; exact hin.1) hin.2)
          have AN : Hid (cmpLt y.1 z < 0 → ∀ j x, j < at_ + 1 → (F.map (·.1))[j]? = some x → cmpLt x z < 0) := Lib.hid (fun hc j x hj hx => by
            by_cases e : j = at_
            · subst e
              rw [List.getElem?_map, hy] at hx
              obtain rfl : y.1 = x := by simpa using hx
              exact hc
            · exact hA.out j x (by omega) hx)
          have HY : Hid ((F.map (·.1))[at_]? = some y.1) := Lib.hid (by rw [List.getElem?_map, hy]; rfl)
          clear hin hyv hy
          generalize hcc : cmpLt y.1 z = c at *
          have HCC := Lib.hid hcc
          clear hcc
          generalize y.1.1 = yb at *
          generalize y.1.2.nm = yn at *
          generalize y.1.2.args.length = ya at *
          go_upto_region 7 with fail
          go_cut [37] (fun s37 wx => s37 = .bool (decide (c < 0)) ∧ Hid (Below W5.heap.size W5 wx))
          case first =>
            obtain ⟨x1, x2, x3, x4, x5, x6, x7⟩ := Hb.out _ (hQ.out.drew)
            have hq0 := Lib.hid hQ.out.drew
            go_region_held3 (fun w' => w'.cell? ⟨R, 2, none⟩ = some (.slice (some ⟨gv, 0, none⟩) F.length vc) ∧ w'.cell? ⟨gv, at_ * 3, none⟩ = some (.bool yb) ∧ w'.cell? ⟨gv, at_ * 3 + 1, none⟩ = some (.string yn) ∧ w'.cell? ⟨gv, at_ * 3 + 1 + 1, none⟩ = some (.slice q8 ya d8) ∧ w'.cell? ⟨X5, 0, none⟩ = some (.bool zb) ∧ w'.cell? ⟨X5, 1, none⟩ = some (.string zn) ∧ w'.cell? ⟨X5, 2, none⟩ = some (.slice q5 za d5))
              (first | (with_reducible assumption) | (with_reducible exact ⟨‹_›, ‹_›, ‹_›, ‹_›, ‹_›, ‹_›, ‹_›⟩) | (with_reducible refine Hb.out _ ?_; repeat (first | (with_reducible exact Hid.out (by assumption)) | (with_reducible exact Below.refl _ _) | (with_reducible refine Below.drew ?_))))
              (first | (go_at_call 31; (try go_split_ands); (with_reducible refine (KK.out _ (by repeat (first | (with_reducible exact Hid.out (by assumption)) | (with_reducible exact Below.refl _ _) | (with_reducible refine Below.drew ?_)))).mono ?_); rintro e w' ⟨rfl, q0⟩; (have qg : Below W5.heap.size W5 w' := by (refine next0 ?_ q0.1; repeat (first | (with_reducible exact Hid.out (by assumption)) | (with_reducible exact Below.refl _ _) | (with_reducible refine Below.drew ?_)))); clear q0; obtain ⟨x1, x2, x3, x4, x5, x6, x7⟩ := Hb.out _ qg))
            all_goals
              go_wp2_with fail
              go_meet
              exact ⟨rfl, Lib.hid qg⟩
          case rest =>
            obtain ⟨rfl, hQ2⟩ := hcut
            generalize hwx : wc = wx at *
            clear hwx
            by_cases hc : c < 0
            · have A2 := Lib.hid (AN.out hc)
              go_wp2_with fail
              go_roundw
              case rel => exact ⟨at_ + 1, by omega, by go_num, A2, hQ2⟩
              case measure => simp [intOf]; omega
            · clear hQ
              have hQ := hQ2
              go_upto_region 9 with fail
              go_cut [54] (fun s54 wx => s54 = .bool (c == 0) ∧ Hid (Below W5.heap.size W5 wx))
              case first =>
                obtain ⟨x1, x2, x3, x4, x5, x6, x7⟩ := Hb.out _ (hQ.out.drew)
                have hq0 := Lib.hid hQ.out.drew
                go_region_held3 (fun w' => w'.cell? ⟨R, 2, none⟩ = some (.slice (some ⟨gv, 0, none⟩) F.length vc) ∧ w'.cell? ⟨gv, at_ * 3, none⟩ = some (.bool yb) ∧ w'.cell? ⟨gv, at_ * 3 + 1, none⟩ = some (.string yn) ∧ w'.cell? ⟨gv, at_ * 3 + 1 + 1, none⟩ = some (.slice q8 ya d8) ∧ w'.cell? ⟨X5, 0, none⟩ = some (.bool zb) ∧ w'.cell? ⟨X5, 1, none⟩ = some (.string zn) ∧ w'.cell? ⟨X5, 2, none⟩ = some (.slice q5 za d5))
                  (first | (with_reducible assumption) | (with_reducible exact ⟨‹_›, ‹_›, ‹_›, ‹_›, ‹_›, ‹_›, ‹_›⟩) | (with_reducible refine Hb.out _ ?_; repeat (first | (with_reducible exact Hid.out (by assumption)) | (with_reducible exact Below.refl _ _) | (with_reducible refine Below.drew ?_))))
                  (first | (go_at_call 31; (try go_split_ands); (with_reducible refine (KK.out _ (by repeat (first | (with_reducible exact Hid.out (by assumption)) | (with_reducible exact Below.refl _ _) | (with_reducible refine Below.drew ?_)))).mono ?_); rintro e w' ⟨rfl, q0⟩; (have qg : Below W5.heap.size W5 w' := by (refine next0 ?_ q0.1; repeat (first | (with_reducible exact Hid.out (by assumption)) | (with_reducible exact Below.refl _ _) | (with_reducible refine Below.drew ?_)))); clear q0; obtain ⟨x1, x2, x3, x4, x5, x6, x7⟩ := Hb.out _ qg))
                all_goals
                  go_wp2_with fail
                  go_meet
                  exact ⟨rfl, Lib.hid qg⟩
              case rest =>
                obtain ⟨rfl, hQ3⟩ := hcut
                generalize hwx2 : wc = wy at *
                clear hwx2
                by_cases h0 : c = 0
                · subst h0
                  have hF8 : Hid (F.map (·.1) = tid l (k + 1)) := Lib.hid (by rw [hT.out, (ins_at z (F.map (·.1)) at_ hA.out (by rw [List.length_map]; omega)).1 y.1 HY.out HCC.out])
                  have HR8 := Lib.hid (H5.out.step0 hQ3.out)
                  have O8 := Lib.hid (OQ.out _ hQ3.out)
                  have XX := Lib.hid (Lt.below X9.out hQ3.out)
                  go_wp2_with fail
                  go_roundw
                  case rel => exact ⟨k + 1, F, _, by omega, by go_num, hF8, O8, hI, HR8, XX⟩
                  case measure => simp [intOf]; omega
                · have h0b : (c == 0) = false := by simpa using h0
                  have HCND : Hid (∀ y', (F.map (·.1))[at_]? = some y' → 0 < cmpLt y' z) := Lib.hid (fun y' hy' => by
                    rw [HY.out] at hy'
                    obtain rfl := Option.some.inj hy'
                    rw [HCC.out]
                    omega)
                  clear h0 hc KK AN Hb HY
                  have HRx := Lib.hid (H5.out.step0 hQ3.out)
                  have HBx := Lib.hid (HB5.out.step0 hQ3.out)
                  have OX := Lib.hid (own_lt (ex := fun _ => False) O5.out (Lt.of hQ3.out) (fun _ _ h => h))
                  have hqs := hQ3.out.size
                  have NS : Hid (wy.ownsRow wy.heap.size KL.ty 3 (.slice none 0 0) 0 []) := Lib.hid (OwnG.nil (K := KL) _ _).1
                  have A1 : 0 + at_ ≤ maxLen := by have := hFk.out; unfold maxLen; omega
                  have A2 : (0 + at_) * 48 ≤ 140737488355328 := by have := hFk.out; omega
                  have A3 : at_ + 1 ≤ maxLen := by have := hFk.out; unfold maxLen; omega
                  have A4 : (at_ + 1) * 48 ≤ 140737488355328 := by have := hFk.out; omega
                  have hcap : F.length ≤ vc := by
                    rcases OX.out.2 with ⟨e, _⟩ | ⟨g', cap, cur, e, _, _, h4, _⟩
                    · cases e
                    · injection e with _ _ e3; omega
                  have A0 : (KL.flat (F.take at_)).length = at_ * 3 := by rw [flat_len, List.length_take]; omega
                  have A6 : (KL.flat (F.drop at_)).length = (F.length - at_) * 3 := by rw [flat_len, List.length_drop]
                  have A7 : at_ + 1 + (F.length - at_) ≤ maxLen := by have := hFk.out; unfold maxLen; omega
                  have A8 : (at_ + 1 + (F.length - at_)) * 48 ≤ 140737488355328 := by have := hFk.out; omega
                  have ON1 := Lib.hid (one_all (F.take at_) fun x hx => by obtain ⟨q, c, e⟩ := (hI.out x (List.mem_of_mem_take hx)).1.form; exact ⟨q, _, c, e⟩)
                  have ON3 := Lib.hid (one_all (F.drop at_) fun x hx => by obtain ⟨q, c, e⟩ := (hI.out x (List.mem_of_mem_drop hx)).1.form; exact ⟨q, _, c, e⟩)
                  have PC1 : Hid (∀ j u, (KL.flat (F.take at_))[j]? = some u → wy.cell? ((⟨gv, 0, none⟩ : Addr).add j) = some u) := Lib.hid (fun j u hu => by have := part_cells OX.out rfl 0 (F.take at_) (Nat.zero_le _) ⟨F.drop at_, by simp⟩ j u hu; simpa using this)
                  obtain ⟨x1, x2, x3, x4, x5, x6, x7⟩ := UnpP.has3 HRx.out
                  go_upto_region 12 with (at_builtin; go_must (refine wpList_append_own_at _ rfl _ _ 25 rfl wy.heap.size 47 i0 (.agg #[.bool false, .string ⟨#[]⟩, .slice none 0 0]) 3 48 Tryz.underlying25 hi0 hi1 hi2 hi3 rfl (by decide) (.slice none 0 0) 0 [] rfl NS.out ⟨gv, 0, none⟩ at_ _ (KL.flat (F.take at_)) rfl A0 PC1.out ON1.out A1 A2 (Nat.le_refl _) ?_; intro v1 w1 hown1 hgrow1 hnn1 hob1; clear hnn1 hob1; have D1 := Lib.hid ((Below.refl wy.heap.size wy).grown hgrow1 (Nat.le_refl _) (fun j hj => (NS.out.lt j hj).1)); have O1 : Hid (w1.ownsRow wy.heap.size KL.ty 3 v1 at_ (KL.flat (F.take at_))) := Lib.hid (by have h := hown1; rw [Nat.zero_add] at h; exact h); clear hown1 hgrow1; obtain ⟨a1, e1, rfl⟩ := own_formL O1.out))
                  have HB1 := Lib.hid (HBx.out.step0 D1.out)
                  have d1s := D1.out.size
                  obtain ⟨z1, z2, z3, z4, z5, z6, z7⟩ := UnpP.has3 HB1.out
                  have A5 : wy.heap.size ≤ (w1.alloc (.cells #[.bool zb, .string zn, .slice q5 za d5] 47)).heap.size := by simp <;> omega
                  go_upto_region 13 with (at_builtin; go_must (refine wpList_append_lies _ rfl _ _ 25 rfl wy.heap.size 47 i0 (.agg #[.bool false, .string ⟨#[]⟩, .slice none 0 0]) 3 48 Tryz.underlying25 hi0 hi1 hi2 hi3 rfl (by decide) (.slice a1 at_ e1) at_ (KL.flat (F.take at_)) rfl (O1.out.alloc _) ⟨w1.heap.size, 0, none⟩ 1 1 [.bool zb, .string zn, .slice q5 za d5] rfl rfl (newsK _ _ _ _ _) (one_L _ _ _ _ _) (by decide) A3 A4 A5 (w1.heap.size + 1) (by simp) ?_; intro g2 c2 w2 hown2 hgrow2 hat2 hlt2; have O2 := Lib.hid hown2; have D2 := Lib.hid ((D1.out.alloc (by exact D1.out.size) (.cells #[.bool zb, .string zn, .slice q5 za d5] 47)).grown hgrow2 (by simp <;> omega) (fun j hj => (O1.out.lt j hj).1)); clear hown2 hgrow2 hat2))
                  have HR2 := Lib.hid (HRx.out.step0 D2.out)
                  have d2s := D2.out.size
                  clear x1 x2 x3 x4 x5 x6 x7 z1 z2 z3 z4 z5 z6 z7
                  obtain ⟨x1, x2, x3, x4, x5, x6, x7⟩ := UnpP.has3 HR2.out
                  have PC3 := Lib.hid (part_cells (own_lt (ex := fun _ => False) OX.out (Lt.of D2.out) (fun _ _ h => h)) rfl at_ (F.drop at_) (by omega) ⟨[], by simp⟩)
                  go_wp2_with (at_builtin; go_must (refine wpList_append_own_at _ rfl _ _ 25 rfl wy.heap.size 47 i0 (.agg #[.bool false, .string ⟨#[]⟩, .slice none 0 0]) 3 48 Tryz.underlying25 hi0 hi1 hi2 hi3 rfl (by decide) (.slice (some ⟨g2, 0, none⟩) (at_ + 1) c2) (at_ + 1) _ rfl O2.out ⟨gv, at_ * 3, none⟩ (F.length - at_) _ (KL.flat (F.drop at_)) rfl A6 PC3.out ON3.out A7 A8 (by omega) ?_; intro v3 w3 hown3 hgrow3 hnn3 hob3; clear hnn3 hob3; obtain ⟨n3, hn3⟩ : ∃ n3, n3 = at_ + 1 + (F.length - at_) := ⟨_, rfl⟩; have O3 := Lib.hid hown3; rw [← hn3] at O3; have HN3 := Lib.hid hn3; clear hn3; obtain ⟨a3, e3, rfl⟩ := own_formL O3.out; have D3 := Lib.hid (D2.out.grown hgrow3 (by omega) (fun j hj => (O2.out.lt j hj).1)); clear hown3 hgrow3; have HR3 := Lib.hid (HRx.out.step0 D3.out); obtain ⟨f1, f2, f3, f4, f5, f6, f7⟩ := UnpP.has3 HR3.out))
                  obtain ⟨w4, hw4⟩ : ∃ u, u = w3.setCell ⟨R, 2, none⟩ (Value.slice a3 n3 e3) := ⟨_, rfl⟩
                  rw [← hw4]
                  have XX : Hid (Lt (fun b => b = R) W9 w4) := Lib.hid (by rw [hw4]; exact (Lt.below (Lt.below X9.out hQ3.out) D3.out).put (Or.inl rfl) _)
                  have H4 : Hid (Has w4 R #[.string hn, .slice pa hln ca, (Value.slice a3 n3 e3)]) := Lib.hid (by rw [hw4]; exact HR3.out.set 2 _)
                  have O3' := Lib.hid (hO8.out w3 (Value.slice a3 n3 e3) wy.heap.size n3 (F.take at_) (F.drop at_) (by have := HN3.out; rw [List.length_append, List.length_cons, List.length_take, List.length_drop]; omega) O3.out)
                  have O4 : Hid (w4.ownsRow (R + 1) KL.ty 3 (Value.slice a3 n3 e3) (F.take at_ ++ zl :: F.drop at_).length (KL.flat (F.take at_ ++ zl :: F.drop at_))) := Lib.hid (own_base (own_lt (ex := (· = R)) O3'.out (by rw [hw4]; exact Lt.put (ex := (· = R)) (p := ⟨R, 2, none⟩) (Lt.of (Below.refl _ _)) (Or.inl rfl) _) (fun k e => by have := (O3'.out.lt k e).1; omega)) (by omega))
                  have HF8 : Hid ((F.take at_ ++ zl :: F.drop at_).map (·.1) = tid l (k + 1)) := Lib.hid (by rw [hM8.out, hT.out, (ins_at z (F.map (·.1)) at_ hA.out (by rw [List.length_map]; omega)).2 HCND.out, List.map_take, List.map_drop])
                  have HI8 : Hid (∀ x ∈ (F.take at_ ++ zl :: F.drop at_), KL.inn ok0 W9 x) := Lib.hid (fun x hx => by
                    rcases List.mem_append.1 hx with hx | hx
                    · exact hI.out x (List.mem_of_mem_take hx)
                    · rcases List.mem_cons.1 hx with rfl | hx
                      · exact hI8.out
                      · exact hI.out x (List.mem_of_mem_drop hx))
                  go_wp2_with fail
                  go_roundw
                  case rel => exact ⟨k + 1, (F.take at_ ++ zl :: F.drop at_), _, by omega, by go_num, HF8, O4, HI8, H4, XX⟩
                  case measure => simp [intOf]; omega
        · have HCND : Hid (∀ y', (F.map (·.1))[at_]? = some y' → 0 < cmpLt y' z) := Lib.hid (fun y' hy' => by
            rw [List.getElem?_eq_none (by rw [List.length_map]; omega)] at hy'
            cases hy')
          have HR7 := Lib.hid (H5.out.step0 hQ.out)
          obtain ⟨x1, x2, x3, x4, x5, x6, x7⟩ := UnpP.has3 HR7.out
          go_upto_region 7 with fail
          go_cut [37] (fun s37 wx => s37 = .bool false ∧ Hid (Below W5.heap.size W5 wx))
          case first =>
            go_quiet (fail)
            go_wp2_with fail
            go_meet
            exact ⟨rfl, Lib.hid (below_drewN hQ.out _)⟩
          case rest =>
            obtain ⟨rfl, hQ2⟩ := hcut
            generalize hwx : wc = wx at *
            clear hwx
            have HR8 := Lib.hid (H5.out.step0 hQ2.out)
            clear x1 x2 x3 x4 x5 x6 x7 HR7
            obtain ⟨x1, x2, x3, x4, x5, x6, x7⟩ := UnpP.has3 HR8.out
            go_upto_region 9 with fail
            go_cut [54] (fun s54 wx => s54 = .bool false ∧ Hid (Below W5.heap.size W5 wx))
            case first =>
              go_quiet (fail)
              go_wp2_with fail
              go_meet
              exact ⟨rfl, Lib.hid (below_drewN hQ2.out _)⟩
            case rest =>
              obtain ⟨rfl, hQ3⟩ := hcut
              generalize hwy : wc = wy at *
              clear hwy x1 x2 x3 x4 x5 x6 x7 HR8 ha
              rcases O5.out.2 with ⟨e0, hz0⟩ | ⟨gv, cap, cur, e0, _⟩
              · injection e0 with e1 _ e3
                subst e1
                subst e3
                have FE := List.eq_nil_of_length_eq_zero hz0
                have FE := Lib.hid FE
                obtain rfl : at_ = 0 := by omega
                have HRx := Lib.hid (H5.out.step0 hQ3.out)
                have HBx := Lib.hid (HB5.out.step0 hQ3.out)
                have OX := Lib.hid (own_lt (ex := fun _ => False) O5.out (Lt.of hQ3.out) (fun _ _ h => h))
                have hqs := hQ3.out.size
                have NS : Hid (wy.ownsRow wy.heap.size KL.ty 3 (.slice none 0 0) 0 []) := Lib.hid (OwnG.nil (K := KL) _ _).1
                have A1 : 0 + 0 ≤ maxLen := by have := hFk.out; unfold maxLen; omega
                have A2 : (0 + 0) * 48 ≤ 140737488355328 := by have := hFk.out; omega
                have A3 : 0 + 1 ≤ maxLen := by have := hFk.out; unfold maxLen; omega
                have A4 : (0 + 1) * 48 ≤ 140737488355328 := by have := hFk.out; omega
                obtain ⟨x1, x2, x3, x4, x5, x6, x7⟩ := UnpP.has3 HRx.out
                go_upto_region 12 with (at_builtin; refine wpList_append_own_none rfl _ _ 25 rfl wy.heap.size 47 i0 3 Tryz.underlying25 hi0 _ 0 [] rfl NS.out rfl ?_)
                have D1 : Hid (Below wy.heap.size wy wy) := Lib.hid (Below.refl _ _)
                have O1 : Hid (wy.ownsRow wy.heap.size KL.ty 3 (.slice none 0 0) 0 []) := NS
                have HB1 := Lib.hid (HBx.out.step0 D1.out)
                have d1s := D1.out.size
                obtain ⟨z1, z2, z3, z4, z5, z6, z7⟩ := UnpP.has3 HB1.out
                have A5 : wy.heap.size ≤ (wy.alloc (.cells #[.bool zb, .string zn, .slice q5 za d5] 47)).heap.size := by simp <;> omega
                go_upto_region 13 with (at_builtin; go_must (refine wpList_append_lies _ rfl _ _ 25 rfl wy.heap.size 47 i0 (.agg #[.bool false, .string ⟨#[]⟩, .slice none 0 0]) 3 48 Tryz.underlying25 hi0 hi1 hi2 hi3 rfl (by decide) (.slice none 0 0) 0 [] rfl (O1.out.alloc _) ⟨wy.heap.size, 0, none⟩ 1 1 [.bool zb, .string zn, .slice q5 za d5] rfl rfl (newsK _ _ _ _ _) (one_L _ _ _ _ _) (by decide) A3 A4 A5 (wy.heap.size + 1) (by simp) ?_; intro g2 c2 w2 hown2 hgrow2 hat2 hlt2; have O2 := Lib.hid hown2; have D2 := Lib.hid ((D1.out.alloc (by exact D1.out.size) (.cells #[.bool zb, .string zn, .slice q5 za d5] 47)).grown hgrow2 (by simp <;> omega) (fun j hj => (O1.out.lt j hj).1)); clear hown2 hgrow2 hat2))
                have HR2 := Lib.hid (HRx.out.step0 D2.out)
                have d2s := D2.out.size
                clear x1 x2 x3 x4 x5 x6 x7 z1 z2 z3 z4 z5 z6 z7
                obtain ⟨x1, x2, x3, x4, x5, x6, x7⟩ := UnpP.has3 HR2.out
                go_wp2_with (at_builtin; refine wpList_append_own_none rfl _ _ 25 rfl wy.heap.size 47 i0 3 Tryz.underlying25 hi0 _ (0 + 1) _ rfl O2.out rfl ?_)
                obtain ⟨w4, hw4⟩ : ∃ u, u = w2.setCell ⟨R, 2, none⟩ (Value.slice (some ⟨g2, 0, none⟩) (0 + 1) c2) := ⟨_, rfl⟩
                rw [← hw4]
                have XX : Hid (Lt (fun b => b = R) W9 w4) := Lib.hid (by rw [hw4]; exact (Lt.below (Lt.below X9.out hQ3.out) D2.out).put (Or.inl rfl) _)
                have H4 : Hid (Has w4 R #[.string hn, .slice pa hln ca, (Value.slice (some ⟨g2, 0, none⟩) (0 + 1) c2)]) := Lib.hid (by rw [hw4]; exact HR2.out.set 2 _)
                have O3' := Lib.hid (hO8.out w2 (Value.slice (some ⟨g2, 0, none⟩) (0 + 1) c2) wy.heap.size (0 + 1) (F.take 0) (F.drop 0) (by rw [List.length_append, List.length_cons, List.length_take, List.length_drop]; omega) (by have h := O2.out; rw [FE.out]; exact h))
                have O4 : Hid (w4.ownsRow (R + 1) KL.ty 3 (Value.slice (some ⟨g2, 0, none⟩) (0 + 1) c2) (F.take 0 ++ zl :: F.drop 0).length (KL.flat (F.take 0 ++ zl :: F.drop 0))) := Lib.hid (own_base (own_lt (ex := (· = R)) O3'.out (by rw [hw4]; exact Lt.put (ex := (· = R)) (p := ⟨R, 2, none⟩) (Lt.of (Below.refl _ _)) (Or.inl rfl) _) (fun k e => by have := (O3'.out.lt k e).1; omega)) (by omega))
                have HF8 : Hid ((F.take 0 ++ zl :: F.drop 0).map (·.1) = tid l (k + 1)) := Lib.hid (by rw [hM8.out, hT.out, (ins_at z (F.map (·.1)) 0 hA.out (by rw [List.length_map]; omega)).2 HCND.out, List.map_take, List.map_drop])
                have HI8 : Hid (∀ x ∈ (F.take 0 ++ zl :: F.drop 0), KL.inn ok0 W9 x) := Lib.hid (fun x hx => by
                  rcases List.mem_append.1 hx with hx | hx
                  · exact hI.out x (List.mem_of_mem_take hx)
                  · rcases List.mem_cons.1 hx with rfl | hx
                    · exact hI8.out
                    · exact hI.out x (List.mem_of_mem_drop hx))
                go_wp2_with fail
                go_roundw
                case rel => exact ⟨k + 1, (F.take 0 ++ zl :: F.drop 0), _, by omega, by go_num, HF8, O4, HI8, H4, XX⟩
                case measure => simp [intOf]; omega
              · injection e0 with e1 _ e3
                subst e1
                clear e3
                by_cases hvc : at_ < vc
                · skip
                  have HRx := Lib.hid (H5.out.step0 hQ3.out)
                  have HBx := Lib.hid (HB5.out.step0 hQ3.out)
                  have OX := Lib.hid (own_lt (ex := fun _ => False) O5.out (Lt.of hQ3.out) (fun _ _ h => h))
                  have hqs := hQ3.out.size
                  have NS : Hid (wy.ownsRow wy.heap.size KL.ty 3 (.slice none 0 0) 0 []) := Lib.hid (OwnG.nil (K := KL) _ _).1
                  have A1 : 0 + at_ ≤ maxLen := by have := hFk.out; unfold maxLen; omega
                  have A2 : (0 + at_) * 48 ≤ 140737488355328 := by have := hFk.out; omega
                  have A3 : at_ + 1 ≤ maxLen := by have := hFk.out; unfold maxLen; omega
                  have A4 : (at_ + 1) * 48 ≤ 140737488355328 := by have := hFk.out; omega
                  have hcap : F.length ≤ vc := by
                    rcases OX.out.2 with ⟨e, _⟩ | ⟨g', cap, cur, e, _, _, h4, _⟩
                    · cases e
                    · injection e with _ _ e3; omega
                  have A0 : (KL.flat (F.take at_)).length = at_ * 3 := by rw [flat_len, List.length_take]; omega
                  have A6 : (KL.flat (F.drop at_)).length = (F.length - at_) * 3 := by rw [flat_len, List.length_drop]
                  have A7 : at_ + 1 + (F.length - at_) ≤ maxLen := by have := hFk.out; unfold maxLen; omega
                  have A8 : (at_ + 1 + (F.length - at_)) * 48 ≤ 140737488355328 := by have := hFk.out; omega
                  have ON1 := Lib.hid (one_all (F.take at_) fun x hx => by obtain ⟨q, c, e⟩ := (hI.out x (List.mem_of_mem_take hx)).1.form; exact ⟨q, _, c, e⟩)
                  have ON3 := Lib.hid (one_all (F.drop at_) fun x hx => by obtain ⟨q, c, e⟩ := (hI.out x (List.mem_of_mem_drop hx)).1.form; exact ⟨q, _, c, e⟩)
                  have PC1 : Hid (∀ j u, (KL.flat (F.take at_))[j]? = some u → wy.cell? ((⟨gv, 0, none⟩ : Addr).add j) = some u) := Lib.hid (fun j u hu => by have := part_cells OX.out rfl 0 (F.take at_) (Nat.zero_le _) ⟨F.drop at_, by simp⟩ j u hu; simpa using this)
                  obtain ⟨x1, x2, x3, x4, x5, x6, x7⟩ := UnpP.has3 HRx.out
                  go_upto_region 12 with (at_builtin; go_must (refine wpList_append_own_at _ rfl _ _ 25 rfl wy.heap.size 47 i0 (.agg #[.bool false, .string ⟨#[]⟩, .slice none 0 0]) 3 48 Tryz.underlying25 hi0 hi1 hi2 hi3 rfl (by decide) (.slice none 0 0) 0 [] rfl NS.out ⟨gv, 0, none⟩ at_ _ (KL.flat (F.take at_)) rfl A0 PC1.out ON1.out A1 A2 (Nat.le_refl _) ?_; intro v1 w1 hown1 hgrow1 hnn1 hob1; clear hnn1 hob1; have D1 := Lib.hid ((Below.refl wy.heap.size wy).grown hgrow1 (Nat.le_refl _) (fun j hj => (NS.out.lt j hj).1)); have O1 : Hid (w1.ownsRow wy.heap.size KL.ty 3 v1 at_ (KL.flat (F.take at_))) := Lib.hid (by have h := hown1; rw [Nat.zero_add] at h; exact h); clear hown1 hgrow1; obtain ⟨a1, e1, rfl⟩ := own_formL O1.out))
                  have HB1 := Lib.hid (HBx.out.step0 D1.out)
                  have d1s := D1.out.size
                  obtain ⟨z1, z2, z3, z4, z5, z6, z7⟩ := UnpP.has3 HB1.out
                  have A5 : wy.heap.size ≤ (w1.alloc (.cells #[.bool zb, .string zn, .slice q5 za d5] 47)).heap.size := by simp <;> omega
                  go_upto_region 13 with (at_builtin; go_must (refine wpList_append_lies _ rfl _ _ 25 rfl wy.heap.size 47 i0 (.agg #[.bool false, .string ⟨#[]⟩, .slice none 0 0]) 3 48 Tryz.underlying25 hi0 hi1 hi2 hi3 rfl (by decide) (.slice a1 at_ e1) at_ (KL.flat (F.take at_)) rfl (O1.out.alloc _) ⟨w1.heap.size, 0, none⟩ 1 1 [.bool zb, .string zn, .slice q5 za d5] rfl rfl (newsK _ _ _ _ _) (one_L _ _ _ _ _) (by decide) A3 A4 A5 (w1.heap.size + 1) (by simp) ?_; intro g2 c2 w2 hown2 hgrow2 hat2 hlt2; have O2 := Lib.hid hown2; have D2 := Lib.hid ((D1.out.alloc (by exact D1.out.size) (.cells #[.bool zb, .string zn, .slice q5 za d5] 47)).grown hgrow2 (by simp <;> omega) (fun j hj => (O1.out.lt j hj).1)); clear hown2 hgrow2 hat2))
                  have HR2 := Lib.hid (HRx.out.step0 D2.out)
                  have d2s := D2.out.size
                  clear x1 x2 x3 x4 x5 x6 x7 z1 z2 z3 z4 z5 z6 z7
                  obtain ⟨x1, x2, x3, x4, x5, x6, x7⟩ := UnpP.has3 HR2.out
                  have PC3 := Lib.hid (part_cells (own_lt (ex := fun _ => False) OX.out (Lt.of D2.out) (fun _ _ h => h)) rfl at_ (F.drop at_) (by omega) ⟨[], by simp⟩)
                  go_wp2_with (at_builtin; go_must (refine wpList_append_own_at _ rfl _ _ 25 rfl wy.heap.size 47 i0 (.agg #[.bool false, .string ⟨#[]⟩, .slice none 0 0]) 3 48 Tryz.underlying25 hi0 hi1 hi2 hi3 rfl (by decide) (.slice (some ⟨g2, 0, none⟩) (at_ + 1) c2) (at_ + 1) _ rfl O2.out ⟨gv, at_ * 3, none⟩ (F.length - at_) _ (KL.flat (F.drop at_)) rfl A6 PC3.out ON3.out A7 A8 (by omega) ?_; intro v3 w3 hown3 hgrow3 hnn3 hob3; clear hnn3 hob3; obtain ⟨n3, hn3⟩ : ∃ n3, n3 = at_ + 1 + (F.length - at_) := ⟨_, rfl⟩; have O3 := Lib.hid hown3; rw [← hn3] at O3; have HN3 := Lib.hid hn3; clear hn3; obtain ⟨a3, e3, rfl⟩ := own_formL O3.out; have D3 := Lib.hid (D2.out.grown hgrow3 (by omega) (fun j hj => (O2.out.lt j hj).1)); clear hown3 hgrow3; have HR3 := Lib.hid (HRx.out.step0 D3.out); obtain ⟨f1, f2, f3, f4, f5, f6, f7⟩ := UnpP.has3 HR3.out))
                  obtain ⟨w4, hw4⟩ : ∃ u, u = w3.setCell ⟨R, 2, none⟩ (Value.slice a3 n3 e3) := ⟨_, rfl⟩
                  rw [← hw4]
                  have XX : Hid (Lt (fun b => b = R) W9 w4) := Lib.hid (by rw [hw4]; exact (Lt.below (Lt.below X9.out hQ3.out) D3.out).put (Or.inl rfl) _)
                  have H4 : Hid (Has w4 R #[.string hn, .slice pa hln ca, (Value.slice a3 n3 e3)]) := Lib.hid (by rw [hw4]; exact HR3.out.set 2 _)
                  have O3' := Lib.hid (hO8.out w3 (Value.slice a3 n3 e3) wy.heap.size n3 (F.take at_) (F.drop at_) (by have := HN3.out; rw [List.length_append, List.length_cons, List.length_take, List.length_drop]; omega) O3.out)
                  have O4 : Hid (w4.ownsRow (R + 1) KL.ty 3 (Value.slice a3 n3 e3) (F.take at_ ++ zl :: F.drop at_).length (KL.flat (F.take at_ ++ zl :: F.drop at_))) := Lib.hid (own_base (own_lt (ex := (· = R)) O3'.out (by rw [hw4]; exact Lt.put (ex := (· = R)) (p := ⟨R, 2, none⟩) (Lt.of (Below.refl _ _)) (Or.inl rfl) _) (fun k e => by have := (O3'.out.lt k e).1; omega)) (by omega))
                  have HF8 : Hid ((F.take at_ ++ zl :: F.drop at_).map (·.1) = tid l (k + 1)) := Lib.hid (by rw [hM8.out, hT.out, (ins_at z (F.map (·.1)) at_ hA.out (by rw [List.length_map]; omega)).2 HCND.out, List.map_take, List.map_drop])
                  have HI8 : Hid (∀ x ∈ (F.take at_ ++ zl :: F.drop at_), KL.inn ok0 W9 x) := Lib.hid (fun x hx => by
                    rcases List.mem_append.1 hx with hx | hx
                    · exact hI.out x (List.mem_of_mem_take hx)
                    · rcases List.mem_cons.1 hx with rfl | hx
                      · exact hI8.out
                      · exact hI.out x (List.mem_of_mem_drop hx))
                  go_wp2_with fail
                  go_roundw
                  case rel => exact ⟨k + 1, (F.take at_ ++ zl :: F.drop at_), _, by omega, by go_num, HF8, O4, HI8, H4, XX⟩
                  case measure => simp [intOf]; omega
                · have hcap0 : F.length ≤ vc := by
                    rcases O5.out.2 with ⟨e, _⟩ | ⟨g', cap, cur, e, _, _, h4, _⟩
                    · cases e
                    · injection e with _ _ e3; omega
                  obtain rfl : vc = at_ := by omega
                  have hfl : F.length = vc := by omega
                  have HFL := Lib.hid hfl
                  have HRx := Lib.hid (H5.out.step0 hQ3.out)
                  have HBx := Lib.hid (HB5.out.step0 hQ3.out)
                  have OX := Lib.hid (own_lt (ex := fun _ => False) O5.out (Lt.of hQ3.out) (fun _ _ h => h))
                  have hqs := hQ3.out.size
                  have NS : Hid (wy.ownsRow wy.heap.size KL.ty 3 (.slice none 0 0) 0 []) := Lib.hid (OwnG.nil (K := KL) _ _).1
                  have A1 : 0 + vc ≤ maxLen := by have := hFk.out; have := HFL.out; unfold maxLen; omega
                  have A2 : (0 + vc) * 48 ≤ 140737488355328 := by have := hFk.out; have := HFL.out; omega
                  have A3 : vc + 1 ≤ maxLen := by have := hFk.out; have := HFL.out; unfold maxLen; omega
                  have A4 : (vc + 1) * 48 ≤ 140737488355328 := by have := hFk.out; have := HFL.out; omega
                  have hcap : F.length ≤ vc := by have := HFL.out; omega
                  have A0 : (KL.flat (F.take vc)).length = vc * 3 := by have := HFL.out; rw [flat_len, List.length_take]; omega
                  have A6 : ([] : List Value).length = 0 * 3 := rfl
                  have A7 : vc + 1 + 0 ≤ maxLen := by have := hFk.out; have := HFL.out; have := HFL.out; unfold maxLen; omega
                  have A8 : (vc + 1 + 0) * 48 ≤ 140737488355328 := by have := hFk.out; have := HFL.out; have := HFL.out; omega
                  have ON1 := Lib.hid (one_all (F.take vc) fun x hx => by obtain ⟨q, c, e⟩ := (hI.out x (List.mem_of_mem_take hx)).1.form; exact ⟨q, _, c, e⟩)
                  have ON3 : Hid (∀ u ∈ ([] : List Value), u.oneCell' = true) := Lib.hid (fun u h => by simp at h)
                  have PC1 : Hid (∀ j u, (KL.flat (F.take vc))[j]? = some u → wy.cell? ((⟨gv, 0, none⟩ : Addr).add j) = some u) := Lib.hid (fun j u hu => by have := part_cells OX.out rfl 0 (F.take vc) (Nat.zero_le _) ⟨F.drop vc, by simp⟩ j u hu; simpa using this)
                  obtain ⟨x1, x2, x3, x4, x5, x6, x7⟩ := UnpP.has3 HRx.out
                  go_upto_region 12 with (at_builtin; go_must (refine wpList_append_own_at _ rfl _ _ 25 rfl wy.heap.size 47 i0 (.agg #[.bool false, .string ⟨#[]⟩, .slice none 0 0]) 3 48 Tryz.underlying25 hi0 hi1 hi2 hi3 rfl (by decide) (.slice none 0 0) 0 [] rfl NS.out ⟨gv, 0, none⟩ vc _ (KL.flat (F.take vc)) rfl A0 PC1.out ON1.out A1 A2 (Nat.le_refl _) ?_; intro v1 w1 hown1 hgrow1 hnn1 hob1; clear hnn1 hob1; have D1 := Lib.hid ((Below.refl wy.heap.size wy).grown hgrow1 (Nat.le_refl _) (fun j hj => (NS.out.lt j hj).1)); have O1 : Hid (w1.ownsRow wy.heap.size KL.ty 3 v1 vc (KL.flat (F.take vc))) := Lib.hid (by have h := hown1; rw [Nat.zero_add] at h; exact h); clear hown1 hgrow1; obtain ⟨a1, e1, rfl⟩ := own_formL O1.out))
                  have HB1 := Lib.hid (HBx.out.step0 D1.out)
                  have d1s := D1.out.size
                  obtain ⟨z1, z2, z3, z4, z5, z6, z7⟩ := UnpP.has3 HB1.out
                  have A5 : wy.heap.size ≤ (w1.alloc (.cells #[.bool zb, .string zn, .slice q5 za d5] 47)).heap.size := by simp <;> omega
                  go_upto_region 13 with (at_builtin; go_must (refine wpList_append_lies _ rfl _ _ 25 rfl wy.heap.size 47 i0 (.agg #[.bool false, .string ⟨#[]⟩, .slice none 0 0]) 3 48 Tryz.underlying25 hi0 hi1 hi2 hi3 rfl (by decide) (.slice a1 vc e1) vc (KL.flat (F.take vc)) rfl (O1.out.alloc _) ⟨w1.heap.size, 0, none⟩ 1 1 [.bool zb, .string zn, .slice q5 za d5] rfl rfl (newsK _ _ _ _ _) (one_L _ _ _ _ _) (by decide) A3 A4 A5 (w1.heap.size + 1) (by simp) ?_; intro g2 c2 w2 hown2 hgrow2 hat2 hlt2; have O2 := Lib.hid hown2; have D2 := Lib.hid ((D1.out.alloc (by exact D1.out.size) (.cells #[.bool zb, .string zn, .slice q5 za d5] 47)).grown hgrow2 (by simp <;> omega) (fun j hj => (O1.out.lt j hj).1)); clear hown2 hgrow2 hat2))
                  have HR2 := Lib.hid (HRx.out.step0 D2.out)
                  have d2s := D2.out.size
                  clear x1 x2 x3 x4 x5 x6 x7 z1 z2 z3 z4 z5 z6 z7
                  obtain ⟨x1, x2, x3, x4, x5, x6, x7⟩ := UnpP.has3 HR2.out
                  have PC3 : Hid (∀ j u, ([] : List Value)[j]? = some u → w2.cell? ((⟨gv, 0, none⟩ : Addr).add j) = some u) := Lib.hid (fun j u h => by simp at h)
                  go_wp2_with (at_builtin; go_must (refine wpList_append_own_at _ rfl _ _ 25 rfl wy.heap.size 47 i0 (.agg #[.bool false, .string ⟨#[]⟩, .slice none 0 0]) 3 48 Tryz.underlying25 hi0 hi1 hi2 hi3 rfl (by decide) (.slice (some ⟨g2, 0, none⟩) (vc + 1) c2) (vc + 1) _ rfl O2.out ⟨gv, 0, none⟩ 0 _ [] rfl A6 PC3.out ON3.out A7 A8 (by omega) ?_; intro v3 w3 hown3 hgrow3 hnn3 hob3; clear hnn3 hob3; obtain ⟨n3, hn3⟩ : ∃ n3, n3 = vc + 1 + 0 := ⟨_, rfl⟩; have O3 := Lib.hid hown3; rw [← hn3] at O3; have HN3 := Lib.hid hn3; clear hn3; obtain ⟨a3, e3, rfl⟩ := own_formL O3.out; have D3 := Lib.hid (D2.out.grown hgrow3 (by omega) (fun j hj => (O2.out.lt j hj).1)); clear hown3 hgrow3; have HR3 := Lib.hid (HRx.out.step0 D3.out); obtain ⟨f1, f2, f3, f4, f5, f6, f7⟩ := UnpP.has3 HR3.out))
                  obtain ⟨w4, hw4⟩ : ∃ u, u = w3.setCell ⟨R, 2, none⟩ (Value.slice a3 n3 e3) := ⟨_, rfl⟩
                  rw [← hw4]
                  have XX : Hid (Lt (fun b => b = R) W9 w4) := Lib.hid (by rw [hw4]; exact (Lt.below (Lt.below X9.out hQ3.out) D3.out).put (Or.inl rfl) _)
                  have H4 : Hid (Has w4 R #[.string hn, .slice pa hln ca, (Value.slice a3 n3 e3)]) := Lib.hid (by rw [hw4]; exact HR3.out.set 2 _)
                  have O3' := Lib.hid (hO8.out w3 (Value.slice a3 n3 e3) wy.heap.size n3 (F.take vc) (F.drop vc) (by have := HN3.out; have := HFL.out; rw [List.length_append, List.length_cons, List.length_take, List.length_drop]; omega) (by rw [List.drop_eq_nil_of_le (by have := HFL.out; omega)]; exact O3.out))
                  have O4 : Hid (w4.ownsRow (R + 1) KL.ty 3 (Value.slice a3 n3 e3) (F.take vc ++ zl :: F.drop vc).length (KL.flat (F.take vc ++ zl :: F.drop vc))) := Lib.hid (own_base (own_lt (ex := (· = R)) O3'.out (by rw [hw4]; exact Lt.put (ex := (· = R)) (p := ⟨R, 2, none⟩) (Lt.of (Below.refl _ _)) (Or.inl rfl) _) (fun k e => by have := (O3'.out.lt k e).1; omega)) (by omega))
                  have HF8 : Hid ((F.take vc ++ zl :: F.drop vc).map (·.1) = tid l (k + 1)) := Lib.hid (by rw [hM8.out, hT.out, (ins_at z (F.map (·.1)) vc hA.out (by have := HFL.out; rw [List.length_map]; omega)).2 HCND.out, List.map_take, List.map_drop])
                  have HI8 : Hid (∀ x ∈ (F.take vc ++ zl :: F.drop vc), KL.inn ok0 W9 x) := Lib.hid (fun x hx => by
                    rcases List.mem_append.1 hx with hx | hx
                    · exact hI.out x (List.mem_of_mem_take hx)
                    · rcases List.mem_cons.1 hx with rfl | hx
                      · exact hI8.out
                      · exact hI.out x (List.mem_of_mem_drop hx))
                  go_wp2_with fail
                  go_roundw
                  case rel => exact ⟨k + 1, (F.take vc ++ zl :: F.drop vc), _, by omega, by go_num, HF8, O4, HI8, H4, XX⟩
                  case measure => simp [intOf]; omega
    · obtain rfl : k = n := by omega
      have OL0 := Lib.hid (row_kind hO.out (ok0 := ok0) (fun z hz => KL.keep (hI.out z hz) (fun b o (hb : ok0 b) => hX.out.cell (o := o) (show b < W9.heap.size by have := hok b hb; omega) (show ¬ b = R by have := hok b hb; omega))))
      have OL : Hid (LIn (fun b => ok0 b ∨ (R + 1 ≤ b ∧ b < wr.heap.size)) wr (arrL l) (.slice va F.length vc)) := Lib.hid (by have h := OL0.out; rw [hF.out, TA.out] at h; exact h)
      have HE := Lib.hid (hX.out.has HQ0.out (show ¬ w.heap.size + 1 = R by omega))
      obtain ⟨f1, f2, f3, f4, f5, f6, f7⟩ := UnpP.has3 hH.out
      obtain ⟨g1, g2, g3, g4, g5, g6, g7⟩ := UnpP.has3 HE.out
      obtain ⟨W10, hW10⟩ : ∃ z, z = ((wr.setCell ⟨w.heap.size + 1, 0, none⟩ (.string hn)).setCell ⟨w.heap.size + 1, 1, none⟩ (.slice pa hln ca)).setCell ⟨w.heap.size + 1, 2, none⟩ (.slice va F.length vc) := ⟨_, rfl⟩
      have R6 := UnmH.put3 HE.out (.string hn) (.slice pa hln ca) (.slice va F.length vc)
      obtain ⟨r1, r2, r3⟩ := UniA.three R6
      have P9 : Hid (Lt (· = w.heap.size + 1) wr W10) := Lib.hid (by rw [hW10]; exact Lt.put (ex := (· = w.heap.size + 1)) (p := ⟨w.heap.size + 1, 2, none⟩) (Lt.put (ex := (· = w.heap.size + 1)) (p := ⟨w.heap.size + 1, 1, none⟩) (Lt.put (ex := (· = w.heap.size + 1)) (p := ⟨w.heap.size + 1, 0, none⟩) (Lt.of (Below.refl _ _)) (Or.inl rfl) _) (Or.inl rfl) _) (Or.inl rfl) _)
      have hz10 := P9.out.size
      have L9 := Lib.hid ((OL.out.keep (w' := W10) fun b o hb => P9.out.cell (show b < wr.heap.size by rcases hb with hb | hb; (have := hok b hb; omega); omega) (show ¬ b = w.heap.size + 1 by rcases hb with hb | hb; (have := hok b hb; omega); omega)).wide (ok' := fun b => ok0 b ∨ (w.heap.size ≤ b ∧ b < W10.heap.size)) fun b hb => hb.imp id fun h => ⟨by omega, by omega⟩)
      have DD := Lib.hid ((D9.out.trans (hX.out.toBelow (B := w.heap.size) (by omega) (fun i e => by omega))).trans (P9.out.toBelow (B := w.heap.size) (by omega) (fun i e => by omega)))
      have HW10 := Lib.hid hW10
      clear R6 OL OL0 P9 hz10 hW10
      go_wp2_with fail
      refine bodyPost_ret (v := .agg #[.string hn, .slice pa hln ca, .slice va F.length vc]) (by simp [results, Tryz.results43, go_sem, r1, r2, r3]) rfl ?_
      rw [← HW10.out]
      exact ⟨_, rfl, L9.out, DD.out⟩
end NolK
end Go.Proofs.YtdkpflojdnkbnaaGreatDoor
