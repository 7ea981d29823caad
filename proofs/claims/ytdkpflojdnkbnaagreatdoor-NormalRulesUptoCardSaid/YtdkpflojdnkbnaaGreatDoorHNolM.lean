/- The reference's orders: all orders of the numbers 1 to n. Condition: n is at most 5. Made by gennolm.py. -/
import Derived.Test.YtdkpflojdnkbnaaGreatDoorHNolL
import Derived.Test.YtdkpflojdnkbnaaGreatDoorHAN
import Derived.Maps.AppendAt
import Derived.Deep.AppendLies
import Derived.Laws.AppendOwnNone
import Derived.OwnWalk
import Derived.WalkSpells
namespace Go.Proofs.YtdkpflojdnkbnaaGreatDoor
open Go Go.RowKit
namespace NolM
open Kit LexM TermM TermI TermN TermU UniK NorR NolL
theorem Tryz.infoI : (Tryz.prog.info? 3).map (fun i => (i.zero, i.size, i.bytes)) = some (some (.int .i64 0), 1, 8) := by kernel_rfl
theorem Tryz.infoII : (Tryz.prog.info? 67).map (fun i => (i.zero, i.size, i.bytes)) = some (some (.slice none 0 0), 1, 24) := by kernel_rfl
/-- What orders leaves. -/
def OrdQ (n : Nat) (w : World) (e : Ending) (w' : World) : Prop :=
  ∃ (L : List (List Nat × Value)) (p : Option Addr) (c : Nat), e = .returned (.slice p L.length c) ∧ L.map (·.1) = ordP n ∧ RowI (fun b => w.heap.size ≤ b ∧ b < w'.heap.size) w' L (.slice p L.length c) ∧ Below w.heap.size w w'
theorem form1 {base n : Nat} {w : World} {e : TypeId} {s : Nat} {v : Value} {cs : List Value} (h : w.ownsRow base e s v n cs) : ∃ a c, v = .slice a n c := by
  rcases h.2 with ⟨e, hz⟩ | ⟨g, cap, cur, e, _⟩
  · exact ⟨none, 0, by rw [e, hz]⟩
  · exact ⟨_, cap, e⟩
theorem nil_own (base : Nat) (w : World) (e : TypeId) (s : Nat) : w.ownsRow base e s (.slice none 0 0) 0 [] := ⟨by simp, Or.inl ⟨rfl, rfl⟩⟩
theorem row_zero (w w' : World) (h : w' = w.alloc (.cells #[.slice none 0 0] 67)) : RowI (fun b => w.heap.size ≤ b ∧ b < w'.heap.size) w' [([], .slice none 0 0)] (.slice (some ⟨w.heap.size, 0, none⟩) 1 1) := by
  subst h
  refine ⟨_, 1, rfl, Nat.le_refl _, by unfold maxLen; omega, fun x hx => ?_, fun _ => ⟨w.heap.size, rfl, ⟨Nat.le_refl _, by simp⟩, fun i x hx => ?_⟩⟩
  · obtain rfl := List.mem_singleton.1 hx
    exact IIn.nil _ _
  · have hi := (List.getElem?_eq_some_iff.1 hx).1
    obtain rfl : i = 0 := by simpa using hi
    obtain rfl : ([], Value.slice none 0 0) = x := by simpa using hx
    exact (Has.new w 67 #[.slice none 0 0]).cell 0
theorem ord_row {n k : Nat} {L : List (List Nat × Value)} (h : L.map (·.1) = ordP n) (hk : k < L.length) : ∃ x v, L[k]? = some (x, v) ∧ (ordP n)[k]? = some x ∧ x.length = n := by
  refine ⟨L[k].1, L[k].2, by simp [hk], ?_, ?_⟩
  · rw [← h, List.getElem?_map]
    simp [hk]
  · refine ord_len (n := n) ?_
    rw [← h]
    exact List.mem_map_of_mem (by simp)
theorem one_n (m : Int) : ∀ u ∈ [Value.int .i64 m], u.oneCell' = true := by
  intro u hu
  obtain rfl := List.mem_singleton.1 hu
  rfl
theorem one_s (p : Option Addr) (n c : Nat) : ∀ u ∈ [Value.slice p n c], u.oneCell' = true := by
  intro u hu
  obtain rfl := List.mem_singleton.1 hu
  rfl
theorem new_row {x : List Nat} {m k : Nat} : ints (x.take k) ++ [.int .i64 ((m + 1 : Nat) : Int)] ++ ints (x.drop k) = ints (x.take k ++ (m + 1) :: x.drop k) := by
  unfold ints
  simp
set_option maxRecDepth 100000 in
set_option maxHeartbeats 6400000 in
theorem orders_any (n : Nat) : n ≤ 5 → ∀ w, Calls Tryz.prog 41 #[.int .i64 n] w (OrdQ n w) := by
  induction n with
  | zero =>
    intro _ w
    go_enter Tryz.func41, Tryz.ntmps41
    go_wp2_with fail
    go_ret
    exact ⟨[([], .slice none 0 0)], _, _, rfl, rfl, row_zero w _ rfl, below_alloc _ _⟩
  | succ n ih =>
    intro hn w
    obtain ⟨i0, hi0, hi1, hi2, hi3⟩ := info_parts Tryz.infoI
    obtain ⟨j0, hj0, hj1, hj2, hj3⟩ := info_parts Tryz.infoII
    have IH := Lib.hid (fun w' => ih (by omega) w')
    clear ih
    obtain ⟨m, hm⟩ : ∃ m, m = n + 1 := ⟨_, rfl⟩
    rw [← hm]
    have e1 : (n : Int) = (m : Int) - 1 := by omega
    rw [e1] at IH
    have hm1 : (1 : Int) ≤ m := by omega
    have hm5 : (m : Int) ≤ 5 := by omega
    have PL := Lib.hid (ordP_len n (by omega))
    have KN := Lib.hid (fun i x (h : (ordP n)[i]? = some x) => ordK_next h)
    have KA := Lib.hid (fun i (h : i = (ordP n).length) => ordK_all h)
    have HM := Lib.hid hm
    clear e1 hm
    go_enter Tryz.func41, Tryz.ntmps41
    go_wp2_with fail
    refine (IH.out _).mono ?_
    rintro e w3 ⟨L0, p0, c0, rfl, hL0, hR0, k0⟩
    have HL0 := Lib.hid hL0
    have HR0 := Lib.hid hR0
    have D3 := Lib.hid k0
    have hla : L0.length ≤ 120 := by have := PL.out; rw [← hL0, List.length_map] at this; exact this
    have HA0 := Lib.hid (fun (i : Nat) (h : i = L0.length) => KA.out i (by rw [h, ← hL0, List.length_map]))
    obtain ⟨a, ha⟩ : ∃ a, a = L0.length := ⟨_, rfl⟩
    have HLA := Lib.hid ha
    rw [← ha]
    rw [← ha] at hla
    clear hL0 hR0 k0 IH KA PL ha
    go_wp2_with fail
    go_loopw [3, 5] (fun u3 i wr => ∃ (k : Nat) (F : List (List Nat × Value)), k ≤ a ∧ i = .int .i64 k ∧ Hid (F.map (·.1) = ordK n k) ∧ Hid (OwnI w3.heap.size wr F u3) ∧ Hid (Below w3.heap.size w3 wr)) (fun _ i _ => a - (intOf i).toNat)
    case atStart => exact ⟨0, [], Nat.zero_le _, rfl, Lib.hid rfl, Lib.hid (OwnI.nil _ _), Lib.hid (Below.refl _ _)⟩
    case round =>
      obtain ⟨k, F, hk, rfl, hF, hO, hD⟩ := hrel
      obtain ⟨va, vc, rfl⟩ := hO.out.form
      by_cases hlt : k < a
      · obtain ⟨x, vx, hx1, hx2, hx3⟩ := ord_row HL0.out (show k < L0.length by rw [← HLA.out]; exact hlt)
        obtain ⟨p9, c9, e9, r2, r3, r4, r5⟩ := HR0.out
        injection e9 with e91 e92 e93
        subst e91 e93
        obtain ⟨g0, rfl, hg0, r6⟩ := r5 (by rw [← HLA.out]; omega)
        have hgl : g0 < w3.heap.size := hg0.2
        have hrow := r6 k _ hx1
        obtain ⟨px, cx, hvx, x1, x2, x3, x4⟩ := r4 _ (List.mem_of_getElem? hx1)
        dsimp only at hvx x1 x3 x4
        subst hvx
        rw [hx3] at hrow x1 x3 x4
        have HX2 := Lib.hid (KN.out k x hx2)
        have HX3 := Lib.hid hx3
        have HROW := Lib.hid (fun wr (g : Below w3.heap.size w3 wr) => (g.cell (p := ⟨g0, k, none⟩) hgl).trans hrow)
        have X3 := Lib.hid x3
        have X4 := Lib.hid x4
        clear hx1 hx2 hx3 r2 r3 r4 r5 r6 hrow x3 x4 e92
        have HFk : Hid (F.length ≤ k * (n + 1)) := Lib.hid (by have h := ordK_len n k; rw [← hF.out, List.length_map] at h; exact h)
        have hkm : k * (n + 1) ≤ 720 := Nat.le_trans (Nat.mul_le_mul (show k ≤ 120 by omega) (show n + 1 ≤ 6 by omega)) (Nat.le_refl _)
        have hFl : F.length ≤ 720 := by have := HFk.out; omega
        clear hkm
        go_wp2_with fail
        go_loopw [3, 6] (fun u3 j wr => ∃ (at_ : Nat) (G : List (List Nat × Value)), at_ ≤ m ∧ j = .int .i64 at_ ∧ Hid (G.map (·.1) = ordK n k ++ insA n at_ x) ∧ Hid (OwnI w3.heap.size wr G u3) ∧ Hid (Below w3.heap.size w3 wr)) (fun _ j _ => m - (intOf j).toNat)
        case atStart => exact ⟨0, F, Nat.zero_le _, rfl, Lib.hid (by rw [hF.out]; simp [insA]), hO, hD⟩
        case round =>
          clear hO hD
          obtain ⟨at_, G, hat, rfl, hG, hO, hD⟩ := hrel
          obtain ⟨ua, uc, rfl⟩ := hO.out.form
          by_cases hlt2 : at_ < m
          · have hGl : G.length ≤ 730 := by
              have h := congrArg List.length hG.out
              rw [List.length_map, List.length_append, insA_len, ← hF.out, List.length_map] at h
              omega
            have hrow := HROW.out wr hD.out
            have hsy := hD.out.size
            have hn5 : n ≤ 4 := by omega
            have hatn : at_ ≤ n := by have := HM.out; omega
            have hvl : Hid (∀ j, (Value.slice ua G.length uc).ownBlock = some j → w3.heap.size ≤ j ∧ j < wr.heap.size) := Lib.hid hO.out.1.lt
            have HG2 : Hid (∀ v : Value, (G ++ [(x.take at_ ++ (n + 1) :: x.drop at_, v)]).map (·.1) = ordK n k ++ insA n (at_ + 1) x) := Lib.hid (fun v => by rw [List.map_append, hG.out, insA_next, ← List.append_assoc]; rfl)
            have hyl : Hid ((x.take at_ ++ (n + 1) :: x.drop at_).length = m) := Lib.hid (by have h1 := HX3.out; have h2 := HM.out; rw [List.length_append, List.length_cons, List.length_take, List.length_drop]; omega)
            have NR := Lib.hid (new_row (x := x) (m := n) (k := at_))
            generalize hy : x.take at_ ++ (n + 1) :: x.drop at_ = y at *
            clear hy
            rw [← HM.out] at NR
            have NS := Lib.hid (nil_own wr.heap.size wr 3 1)
            have A1 : 0 + at_ ≤ maxLen := by unfold maxLen; omega
            have A2 : (0 + at_) * 8 ≤ 140737488355328 := by omega
            have A3 : at_ + 1 ≤ maxLen := by unfold maxLen; omega
            have A4 : (at_ + 1) * 8 ≤ 140737488355328 := by omega
            have A7 : at_ + 1 + (n - at_) ≤ maxLen := by unfold maxLen; omega
            have A8 : (at_ + 1 + (n - at_)) * 8 ≤ 140737488355328 := by omega
            have A9 : G.length + 1 ≤ maxLen := by unfold maxLen; omega
            have A10 : (G.length + 1) * 24 ≤ 140737488355328 := by omega
            have C1 : Hid (x.length = n → (ints (x.take at_)).length = at_ * 1) := Lib.hid (fun h => by rw [ints_len, List.length_take]; omega)
            have C2 : Hid (x.length = n → (ints (x.drop at_)).length = (n - at_) * 1) := Lib.hid (fun h => by rw [ints_len, List.length_drop]; omega)
            have C1' := C1.out HX3.out
            have C2' := C2.out HX3.out
            have ON1 := Lib.hid (one_ints (x.take at_))
            have ON3 := Lib.hid (one_ints (x.drop at_))
            clear C1 C2
            by_cases hn0 : n = 0
            · obtain rfl : at_ = 0 := by omega
              obtain ⟨rfl, rfl⟩ := X3.out hn0
              have XE : x = [] := List.length_eq_zero_iff.1 (by have := HX3.out; omega)
              have NX : Hid ([Value.int .i64 (m : Int)] = ints y) := Lib.hid (by have h := NR.out; rw [XE] at h; exact h)
              clear XE X4 X3 NR ON1 ON3 C1' C2'
              subst hn0
              have D1 : Hid (Below wr.heap.size wr wr) := Lib.hid (Below.refl _ _)
              go_upto_region 13 with (at_builtin; refine wpList_append_own_none rfl _ _ 67 rfl wr.heap.size 3 i0 1 Tryz.underlying67 hi0 _ 0 [] rfl NS.out rfl ?_)
              have A5 : wr.heap.size ≤ (wr.alloc (.cells #[.int .i64 (m : Int)] 3)).heap.size := by simp <;> omega
              go_upto_region 14 with (at_builtin; go_must (refine wpList_append_lies _ rfl _ _ 67 rfl wr.heap.size 3 i0 (.int .i64 0) 1 8 Tryz.underlying67 hi0 hi1 hi2 hi3 rfl (by decide) (.slice none 0 0) 0 [] rfl (NS.out.alloc _) ⟨wr.heap.size, 0, none⟩ 1 1 [.int .i64 (m : Int)] rfl rfl (World.news_of_block (heap_alloc_new wr _)) (one_n (m : Int)) (by decide) A3 A4 A5 (wr.heap.size + 1) (by simp) ?_; intro g2 c2 w2 hown2 hgrow2 hat2 hlt2; have O2 := Lib.hid hown2; have D2 := Lib.hid ((D1.out.alloc (by exact D1.out.size) (.cells #[.int .i64 (m : Int)] 3)).grown hgrow2 (by simp <;> omega) (fun j hj => (NS.out.lt j hj).1)); clear hown2 hgrow2 hat2 hlt2))
              have d2s := D2.out.size
              have hrow2 := HROW.out w2 (next0 hD.out D2.out)
              have D5 := D2
              have I5 := Lib.hid ((IIn.own (x := y) (v := .slice (some ⟨g2, 0, none⟩) (0 + 1) c2) (base := wr.heap.size) (w := w2) (by rw [hyl.out, HM.out, ← NX.out]; exact O2.out) (by rw [hyl.out]; omega)).wide (ok' := fun b => wr.heap.size ≤ b ∧ b < w2.heap.size) (fun b hb => ⟨hb.1, hb.2.1⟩))
              have OG5 := Lib.hid (hO.out.below D2.out)
              have A11 : w3.heap.size ≤ (w2.alloc (.cells #[.slice (some ⟨g2, 0, none⟩) (0 + 1) c2] 67)).heap.size := by simp <;> omega
              go_wp2_with (first | (at_builtin; refine wpList_append_own_none rfl _ _ 67 rfl wr.heap.size 3 i0 1 Tryz.underlying67 hi0 _ (0 + 1) _ rfl O2.out rfl ?_) | (at_builtin; go_must (refine wpList_append_lies _ rfl _ _ 64 rfl w3.heap.size 67 j0 (.slice none 0 0) 1 24 Tryz.underlying64 hj0 hj1 hj2 hj3 rfl (by decide) (.slice ua G.length uc) G.length (hdrs G) rfl (OG5.out.1.alloc _) ⟨w2.heap.size, 0, none⟩ 1 1 [.slice (some ⟨g2, 0, none⟩) (0 + 1) c2] rfl rfl (World.news_of_block (heap_alloc_new w2 _)) (one_s (some ⟨g2, 0, none⟩) (0 + 1) c2) (by decide) A9 A10 A11 (w2.heap.size + 1) (by simp) ?_; intro g6 c6 w6 hown6 hgrow6 hat6 hlt6; have O6 := Lib.hid (OwnI.add (x := (y, .slice (some ⟨g2, 0, none⟩) (0 + 1) c2)) OG5.out I5.out hsy (fun j hj => (hvl.out j hj).2) hown6 hgrow6 hat6); have D6 := Lib.hid ((((hD.out.trans (D5.out.mono hsy)).alloc (by omega) (.cells #[.slice (some ⟨g2, 0, none⟩) (0 + 1) c2] 67))).grown hgrow6 (by simp <;> omega) (fun j hj => (hvl.out j hj).1)); clear hown6 hgrow6 hat6 hlt6)))
              go_wp2_with fail
              go_roundw
              case rel => (repeat (refine Exists.intro _ ?_)); first | exact ⟨0 + 1, _, by omega, by go_num, HG2.out _, O6, D6⟩ | (refine ⟨?_, rfl⟩; exact ⟨0 + 1, _, by omega, by go_num, HG2.out _, O6, D6⟩)
              case measure => simp [intOf]; omega
            · obtain ⟨gx, rfl, hgx0, hc1⟩ := X4.out (by omega)
              have hgx : gx < wr.heap.size := by have := hgx0.2; omega
              have HC1 : Hid (∀ (k y : Nat), x[k]? = some y → wr.cell? ⟨gx, k, none⟩ = some (.int .i64 (y : Int))) := Lib.hid (fun k y h => (hD.out.cell (p := ⟨gx, k, none⟩) hgx0.2).trans (hc1 k y h))
              have PC1 := Lib.hid (part_ints HC1.out 0 (x.take at_) ⟨x.drop at_, by simp⟩)
              clear hc1 X4 X3
              by_cases hcx : at_ < cx
              · go_upto_region 13 with (at_builtin; go_must (refine wpList_append_own_at _ rfl _ _ 67 rfl wr.heap.size 3 i0 (.int .i64 0) 1 8 Tryz.underlying67 hi0 hi1 hi2 hi3 rfl (by decide) (.slice none 0 0) 0 [] rfl NS.out ⟨gx, 0, none⟩ at_ _ (ints (x.take at_)) rfl C1' PC1.out ON1.out A1 A2 (Nat.le_refl _) ?_; intro v1 w1 hown1 hgrow1 hnn1 hob1; clear hnn1 hob1; have D1 := Lib.hid ((Below.refl wr.heap.size wr).grown hgrow1 (Nat.le_refl _) (fun j hj => (NS.out.lt j hj).1)); have O1 : Hid (w1.ownsRow wr.heap.size 3 1 v1 at_ (ints (x.take at_))) := Lib.hid (by have h := hown1; rw [Nat.zero_add] at h; exact h); clear hown1 hgrow1; obtain ⟨a1, e1, rfl⟩ := form1 O1.out))
                have d1s := D1.out.size
                have A5 : wr.heap.size ≤ (w1.alloc (.cells #[.int .i64 (m : Int)] 3)).heap.size := by simp <;> omega
                go_upto_region 14 with (at_builtin; go_must (refine wpList_append_lies _ rfl _ _ 67 rfl wr.heap.size 3 i0 (.int .i64 0) 1 8 Tryz.underlying67 hi0 hi1 hi2 hi3 rfl (by decide) (.slice a1 at_ e1) at_ (ints (x.take at_)) rfl (O1.out.alloc _) ⟨w1.heap.size, 0, none⟩ 1 1 [.int .i64 (m : Int)] rfl rfl (World.news_of_block (heap_alloc_new w1 _)) (one_n (m : Int)) (by decide) A3 A4 A5 (w1.heap.size + 1) (by simp) ?_; intro g2 c2 w2 hown2 hgrow2 hat2 hlt2; have O2 := Lib.hid hown2; have D2 := Lib.hid ((D1.out.alloc (by exact D1.out.size) (.cells #[.int .i64 (m : Int)] 3)).grown hgrow2 (by simp <;> omega) (fun j hj => (O1.out.lt j hj).1)); clear hown2 hgrow2 hat2 hlt2))
                have d2s := D2.out.size
                have hrow2 := HROW.out w2 (next0 hD.out D2.out)
                have OG2 := Lib.hid (hO.out.below D2.out)
                have PC3 := Lib.hid (part_ints (fun (k y : Nat) h => (D2.out.cell (p := ⟨gx, k, none⟩) hgx).trans (HC1.out k y h)) at_ (x.drop at_) ⟨[], by simp⟩)
                go_wp2_with (first | (at_builtin; (refine wpList_append_own_at _ rfl _ _ 67 rfl wr.heap.size 3 i0 (.int .i64 0) 1 8 Tryz.underlying67 hi0 hi1 hi2 hi3 rfl (by decide) (.slice (some ⟨g2, 0, none⟩) (at_ + 1) c2) (at_ + 1) _ rfl O2.out ⟨gx, at_, none⟩ (n - at_) _ (ints (x.drop at_)) rfl C2' PC3.out ON3.out A7 A8 (by omega) ?_; intro v5 w5 hown3 hgrow3 hnn3 hob3; clear hnn3 hob3; have O5 : Hid (w5.ownsRow wr.heap.size 3 1 v5 m (ints y)) := Lib.hid (by have h := hown3; rw [show at_ + 1 + (n - at_) = m by have := HM.out; omega] at h; rw [← NR.out]; exact h); have D5 := Lib.hid (D2.out.grown hgrow3 (by omega) (fun j hj => (O2.out.lt j hj).1)); clear hown3 hgrow3; obtain ⟨a5, e5, rfl⟩ := form1 O5.out; have I5 := Lib.hid ((IIn.own (x := y) (by rw [hyl.out]; exact O5.out) (by rw [hyl.out]; omega)).wide (ok' := fun b => wr.heap.size ≤ b ∧ b < w5.heap.size) (fun b hb => ⟨hb.1, hb.2.1⟩)); have OG5 := Lib.hid (hO.out.below D5.out); have d5s := D5.out.size; have A11 : w3.heap.size ≤ (w5.alloc (.cells #[.slice a5 m e5] 67)).heap.size := by simp <;> omega)) | (at_builtin; go_must (refine wpList_append_lies _ rfl _ _ 64 rfl w3.heap.size 67 j0 (.slice none 0 0) 1 24 Tryz.underlying64 hj0 hj1 hj2 hj3 rfl (by decide) (.slice ua G.length uc) G.length (hdrs G) rfl (OG5.out.1.alloc _) ⟨w5.heap.size, 0, none⟩ 1 1 [.slice a5 m e5] rfl rfl (World.news_of_block (heap_alloc_new w5 _)) (one_s a5 m e5) (by decide) A9 A10 A11 (w5.heap.size + 1) (by simp) ?_; intro g6 c6 w6 hown6 hgrow6 hat6 hlt6; have O6 := Lib.hid (OwnI.add (x := (y, .slice a5 m e5)) OG5.out I5.out hsy (fun j hj => (hvl.out j hj).2) hown6 hgrow6 hat6); have D6 := Lib.hid ((((hD.out.trans (D5.out.mono hsy)).alloc (by omega) (.cells #[.slice a5 m e5] 67))).grown hgrow6 (by simp <;> omega) (fun j hj => (hvl.out j hj).1)); clear hown6 hgrow6 hat6 hlt6)))
                go_wp2_with fail
                go_roundw
                case rel => (repeat (refine Exists.intro _ ?_)); first | exact ⟨at_ + 1, _, by omega, by go_num, HG2.out _, O6, D6⟩ | (refine ⟨?_, rfl⟩; exact ⟨at_ + 1, _, by omega, by go_num, HG2.out _, O6, D6⟩)
                case measure => simp [intOf]; omega
              · obtain rfl : n = at_ := by omega
                obtain rfl : n = cx := by omega
                have DN : Hid (ints (x.drop n) = []) := Lib.hid (by rw [List.drop_eq_nil_of_le (by have := HX3.out; omega)]; rfl)
                have A7' : n + 1 + 0 ≤ maxLen := by unfold maxLen; omega
                have A8' : (n + 1 + 0) * 8 ≤ 140737488355328 := by omega
                go_upto_region 13 with (at_builtin; go_must (refine wpList_append_own_at _ rfl _ _ 67 rfl wr.heap.size 3 i0 (.int .i64 0) 1 8 Tryz.underlying67 hi0 hi1 hi2 hi3 rfl (by decide) (.slice none 0 0) 0 [] rfl NS.out ⟨gx, 0, none⟩ n _ (ints (x.take n)) rfl C1' PC1.out ON1.out A1 A2 (Nat.le_refl _) ?_; intro v1 w1 hown1 hgrow1 hnn1 hob1; clear hnn1 hob1; have D1 := Lib.hid ((Below.refl wr.heap.size wr).grown hgrow1 (Nat.le_refl _) (fun j hj => (NS.out.lt j hj).1)); have O1 : Hid (w1.ownsRow wr.heap.size 3 1 v1 n (ints (x.take n))) := Lib.hid (by have h := hown1; rw [Nat.zero_add] at h; exact h); clear hown1 hgrow1; obtain ⟨a1, e1, rfl⟩ := form1 O1.out))
                have d1s := D1.out.size
                have A5 : wr.heap.size ≤ (w1.alloc (.cells #[.int .i64 (m : Int)] 3)).heap.size := by simp <;> omega
                go_upto_region 14 with (at_builtin; go_must (refine wpList_append_lies _ rfl _ _ 67 rfl wr.heap.size 3 i0 (.int .i64 0) 1 8 Tryz.underlying67 hi0 hi1 hi2 hi3 rfl (by decide) (.slice a1 n e1) n (ints (x.take n)) rfl (O1.out.alloc _) ⟨w1.heap.size, 0, none⟩ 1 1 [.int .i64 (m : Int)] rfl rfl (World.news_of_block (heap_alloc_new w1 _)) (one_n (m : Int)) (by decide) A3 A4 A5 (w1.heap.size + 1) (by simp) ?_; intro g2 c2 w2 hown2 hgrow2 hat2 hlt2; have O2 := Lib.hid hown2; have D2 := Lib.hid ((D1.out.alloc (by exact D1.out.size) (.cells #[.int .i64 (m : Int)] 3)).grown hgrow2 (by simp <;> omega) (fun j hj => (O1.out.lt j hj).1)); clear hown2 hgrow2 hat2 hlt2))
                have d2s := D2.out.size
                have hrow2 := HROW.out w2 (next0 hD.out D2.out)
                have OG2 := Lib.hid (hO.out.below D2.out)
                have PC3 : Hid (∀ j u, ([] : List Value)[j]? = some u → w2.cell? ((⟨gx, 0, none⟩ : Addr).add j) = some u) := Lib.hid (fun j u h => by simp at h)
                go_wp2_with (first | (at_builtin; (refine wpList_append_own_at _ rfl _ _ 67 rfl wr.heap.size 3 i0 (.int .i64 0) 1 8 Tryz.underlying67 hi0 hi1 hi2 hi3 rfl (by decide) (.slice (some ⟨g2, 0, none⟩) (n + 1) c2) (n + 1) _ rfl O2.out ⟨gx, 0, none⟩ 0 _ [] rfl rfl PC3.out (fun u h => by simp at h) A7' A8' (by omega) ?_; intro v5 w5 hown3 hgrow3 hnn3 hob3; clear hnn3 hob3; have O5 : Hid (w5.ownsRow wr.heap.size 3 1 v5 m (ints y)) := Lib.hid (by have h := hown3; rw [show n + 1 + 0 = m by have := HM.out; omega] at h; rw [← NR.out]; rw [DN.out]; exact h); have D5 := Lib.hid (D2.out.grown hgrow3 (by omega) (fun j hj => (O2.out.lt j hj).1)); clear hown3 hgrow3; obtain ⟨a5, e5, rfl⟩ := form1 O5.out; have I5 := Lib.hid ((IIn.own (x := y) (by rw [hyl.out]; exact O5.out) (by rw [hyl.out]; omega)).wide (ok' := fun b => wr.heap.size ≤ b ∧ b < w5.heap.size) (fun b hb => ⟨hb.1, hb.2.1⟩)); have OG5 := Lib.hid (hO.out.below D5.out); have d5s := D5.out.size; have A11 : w3.heap.size ≤ (w5.alloc (.cells #[.slice a5 m e5] 67)).heap.size := by simp <;> omega)) | (at_builtin; go_must (refine wpList_append_lies _ rfl _ _ 64 rfl w3.heap.size 67 j0 (.slice none 0 0) 1 24 Tryz.underlying64 hj0 hj1 hj2 hj3 rfl (by decide) (.slice ua G.length uc) G.length (hdrs G) rfl (OG5.out.1.alloc _) ⟨w5.heap.size, 0, none⟩ 1 1 [.slice a5 m e5] rfl rfl (World.news_of_block (heap_alloc_new w5 _)) (one_s a5 m e5) (by decide) A9 A10 A11 (w5.heap.size + 1) (by simp) ?_; intro g6 c6 w6 hown6 hgrow6 hat6 hlt6; have O6 := Lib.hid (OwnI.add (x := (y, .slice a5 m e5)) OG5.out I5.out hsy (fun j hj => (hvl.out j hj).2) hown6 hgrow6 hat6); have D6 := Lib.hid ((((hD.out.trans (D5.out.mono hsy)).alloc (by omega) (.cells #[.slice a5 m e5] 67))).grown hgrow6 (by simp <;> omega) (fun j hj => (hvl.out j hj).1)); clear hown6 hgrow6 hat6 hlt6)))
                go_wp2_with fail
                go_roundw
                case rel => (repeat (refine Exists.intro _ ?_)); first | exact ⟨n + 1, _, by omega, by go_num, HG2.out _, O6, D6⟩ | (refine ⟨?_, rfl⟩; exact ⟨n + 1, _, by omega, by go_num, HG2.out _, O6, D6⟩)
                case measure => simp [intOf]; omega
          · obtain rfl : at_ = m := by omega
            have HF2 : Hid (G.map (·.1) = ordK n (k + 1)) := Lib.hid (by rw [HX2.out, hG.out, HM.out])
            go_wp2_with fail
            go_roundw
            case rel => (repeat (refine Exists.intro _ ?_)); first | exact ⟨k + 1, _, by omega, by go_num, HF2, hO, hD⟩ | (refine ⟨?_, rfl⟩; exact ⟨k + 1, _, by omega, by go_num, HF2, hO, hD⟩)
            case measure => simp [intOf]; omega
      · obtain rfl : k = a := by omega
        have HP : Hid (F.map (·.1) = ordP (n + 1)) := Lib.hid (by rw [hF.out]; exact HA0.out k HLA.out)
        have hs3 := D3.out.size
        go_wp2_with fail
        go_ret
        rw [HM.out]
        exact ⟨F, va, vc, rfl, HP.out, hO.out.row.wide (fun b hb => ⟨by omega, hb.2⟩), next0 D3.out hD.out⟩
end NolM
end Go.Proofs.YtdkpflojdnkbnaaGreatDoor
