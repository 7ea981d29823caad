/- The reference's put. Condition: at most a million bindings. -/
import Derived.Test.YtihbnonbhelbmaaGreatDoorUniO
import Derived.Test.YtihbnonbhelbmaaGreatDoorUniJ
import Derived.Test.YtihbnonbhelbmaaGreatDoorUniP
import Derived.Deep.AppendLies
import Derived.Deep.DeepCutAuto
import Derived.BigQuiet
import Derived.OwnWalk
import Derived.Laws.OwnMore
namespace Go.Proofs.YtihbnonbhelbmaaGreatDoor
open Go Go.RowKit
namespace UniR
open LexM TermM TermI Kit TermN TermU UniK UniM UniA UniC UniD UniE UniG UniJ UniO
theorem one_B (a b : ByteArray) (p : Option Addr) (n c : Nat) : ∀ u ∈ [Value.string a, .string b, .slice p n c], u.oneCell' = true := by
  intro u hu
  simp at hu
  rcases hu with rfl | rfl | rfl <;> rfl
theorem bd1 {n : Nat} (h : n ≤ 1000001) : n + 1 + 1 ≤ maxLen := by unfold maxLen; omega
theorem bd2 {n : Nat} (h : n ≤ 1000001) : (n + 1 + 1) * 56 ≤ 140737488355328 := by omega
theorem bd3 {n : Nat} (h : n ≤ 1000001) : n + 1 ≤ maxLen := by unfold maxLen; omega
theorem bd4 {n : Nat} (h : n ≤ 1000001) : (n + 1) * 56 ≤ 140737488355328 := by omega
/-- A row of the call's own, of bindings whose terms lie in older blocks. -/
def OwnQ (base : Nat) (w : World) (L : List (Bd × Value)) (v : Value) : Prop := w.ownsRow base 52 3 v L.length (KB.flat L) ∧ ∀ x ∈ L, KB.inn (· < base) w x
theorem OwnQ.nil (base : Nat) (w : World) : OwnQ base w [] (.slice none 0 0) := ⟨⟨rfl, Or.inl ⟨rfl, rfl⟩⟩, fun x h => by simp at h⟩
theorem OwnQ.drewN {base : Nat} {w : World} {L : List (Bd × Value)} {v : Value} (h : OwnQ base w L v) (n : Nat) : OwnQ base (w.drewN n) L v := ⟨⟨h.1.1, h.1.2⟩, fun x hx => KB.keep (h.2 x hx) fun _ _ _ => rfl⟩
theorem OwnQ.form {base : Nat} {w : World} {L : List (Bd × Value)} {v : Value} (h : OwnQ base w L v) : ∃ a c, v = .slice a L.length c := by
  rcases h.1.2 with ⟨e, hz⟩ | ⟨g, cap, cur, e, _⟩
  · exact ⟨none, 0, by rw [e, hz]⟩
  · exact ⟨_, cap, e⟩
theorem OwnQ.add {base g cap : Nat} {w2 w3 : World} {o : Obj} {L : List (Bd × Value)} {v : Value} {x : Bd × Value} (h : OwnQ base w2 L v) (hb : base ≤ w2.heap.size) (hx : KB.inn (· < base) w2 x)
    (hown : w3.ownsRow base 52 3 (.slice (some ⟨g, 0, none⟩) (L.length + 1) cap) (L.length + 1) (KB.flat L ++ KB.cells x)) (hgrow : (w2.alloc o).grownBy w3 v.ownBlock) :
    OwnQ base w3 (L ++ [x]) (.slice (some ⟨g, 0, none⟩) (L.length + 1) cap) ∧ Below base w2 w3 := by
  have hl := h.1.lt
  have hB : Below base w2 w3 := ((Below.refl base w2).alloc hb o).grown hgrow (by simp; omega) (fun k hk => (hl k hk).1)
  refine ⟨⟨by rw [List.length_append, flat_app, flat_one]; exact hown, fun y hy => ?_⟩, hB⟩
  have k : ∀ y, KB.inn (· < base) w2 y → KB.inn (· < base) w3 y := fun y h => KB.keep h fun b o hlt => hB.cell (p := ⟨b, o, none⟩) hlt
  rcases List.mem_append.1 hy with hy | hy
  · exact k y (h.2 y hy)
  · obtain rfl := List.mem_singleton.1 hy
    exact k _ hx
theorem OwnQ.sin {base : Nat} {w : World} {L : List (Bd × Value)} {v : Value} (h : OwnQ base w L v) (hb : base ≤ w.heap.size) : SIn (· < w.heap.size) w (L.map (·.1)) v := by
  have hl := h.1.lt
  refine ⟨L, rfl, ?_⟩
  rcases h.1.2 with ⟨e, hz⟩ | ⟨g, cap, cur, e, e2, e3, e4, e5, _⟩
  · exact ⟨none, 0, by rw [e, hz], by omega, Nat.zero_le _, fun x hx => KB.wide (h.2 x hx) fun b hlt => by omega, fun h => by omega⟩
  · subst e
    refine ⟨_, cap, rfl, e4, e5, fun x hx => KB.wide (h.2 x hx) fun b hlt => by omega, fun _ => ⟨g, 0, rfl, (hl g rfl).2, fun i x hx j u hu => ?_⟩⟩
    have hi := (List.getElem?_eq_some_iff.1 hx).1
    have hj := (List.getElem?_eq_some_iff.1 hu).1
    rw [KB.len] at hj
    rw [show 0 + i * 3 + j = i * 3 + j by omega]
    exact (h.1.cellAt _ (by omega)).trans (flat_get L i x hx j u hu)
theorem put_none {b : Bd} : ∀ {s : List Bd}, (∀ x ∈ s, ltB b.1 x.1 = false) → putS b s = s ++ [b]
  | [], _ => rfl
  | x :: r, h => by
    unfold putS
    rw [h x (by simp)]
    simp [put_none (s := r) (fun y hy => h y (by simp [hy]))]
theorem put_app {b : Bd} {r : List Bd} : ∀ {s : List Bd}, (∃ x ∈ s, ltB b.1 x.1 = true) → putS b (s ++ r) = putS b s ++ r
  | [], h => by simp at h
  | x :: s, h => by
    unfold putS
    simp only [List.cons_append]
    cases hx : ltB b.1 x.1 with
    | true => simp
    | false =>
      have : ∃ y ∈ s, ltB b.1 y.1 = true := by
        obtain ⟨y, hy, h⟩ := h
        rcases List.mem_cons.1 hy with rfl | hy
        · rw [hx] at h; cases h
        · exact ⟨y, hy, h⟩
      simp [put_app (r := r) this]
theorem put_hit {b x : Bd} : ∀ {s : List Bd}, (∀ y ∈ s, ltB b.1 y.1 = false) → ltB b.1 x.1 = true → putS b (s ++ [x]) = s ++ [b, x]
  | [], _, h => by simp [putS, h]
  | y :: s, h0, h => by
    unfold putS
    simp only [List.cons_append]
    rw [h0 y (by simp)]
    simp [put_hit (s := s) (fun y hy => h0 y (by simp [hy])) h]
/-- What lies there after some rounds. -/
def PutSt (b : Bd) (s : List Bd) (k : Nat) (dn : Bool) (out : List Bd) : Prop :=
  (dn = true ∧ out = putS b (s.take k) ∧ ∃ x ∈ s.take k, ltB b.1 x.1 = true) ∨ (dn = false ∧ out = s.take k ∧ ∀ x ∈ s.take k, ltB b.1 x.1 = false)
theorem st_true {b x : Bd} {s out : List Bd} {k : Nat} (h : PutSt b s k true out) (hx : s[k]? = some x) : PutSt b s (k + 1) true (out ++ [x]) := by
  rcases h with ⟨_, rfl, y, hy, h⟩ | ⟨h, _⟩
  · left
    rw [take_get s k x hx]
    exact ⟨rfl, (put_app ⟨y, hy, h⟩).symm, y, by simp [hy], h⟩
  · cases h
theorem st_false {b x : Bd} {s out : List Bd} {k : Nat} (h : PutSt b s k false out) (hx : s[k]? = some x) (hz : ltB b.1 x.1 = false) : PutSt b s (k + 1) false (out ++ [x]) := by
  rcases h with ⟨h, _⟩ | ⟨_, rfl, h⟩
  · cases h
  · right
    rw [take_get s k x hx]
    refine ⟨rfl, rfl, fun y hy => ?_⟩
    rcases List.mem_append.1 hy with hy | hy
    · exact h y hy
    · obtain rfl := List.mem_singleton.1 hy
      exact hz
theorem st_hit {b x : Bd} {s out : List Bd} {k : Nat} (h : PutSt b s k false out) (hx : s[k]? = some x) (hz : ltB b.1 x.1 = true) : PutSt b s (k + 1) true (out ++ [b] ++ [x]) := by
  rcases h with ⟨h, _⟩ | ⟨_, rfl, h⟩
  · cases h
  · left
    rw [take_get s k x hx]
    exact ⟨rfl, by rw [put_hit h hz]; simp, x, by simp, hz⟩
set_option maxRecDepth 100000 in
set_option maxHeartbeats 1600000 in
theorem put_any (s : List Bd) (b : Bd) (hn : s.length ≤ 1000000) (B : Nat) (w : World) (sv bv : Value) (hB : B ≤ w.heap.size) (hs : SIn (· < B) w s sv) (hb : KB.inn (· < B) w (b, bv)) :
    Calls Tryz.prog 61 #[sv, .agg #[.string b.1, .string b.2.nm, bv]] w (InsR (putS b s) w) := by
  obtain ⟨i0, hi, hz0, hz1, hz2⟩ := info_parts infoB
  obtain ⟨pb, cb, rfl⟩ : ∃ pb cb, bv = .slice pb b.2.args.length cb := hb.1.form
  obtain ⟨p, c, rfl, hc, hm, hR⟩ := SIn.row hs
  obtain ⟨W1, hW1⟩ : ∃ W1, W1 = w.alloc (.cells #[.string b.1, .string b.2.nm, .slice pb b.2.args.length cb] 52) := ⟨_, rfl⟩
  have B1 : Hid (Below w.heap.size w W1) := Lib.hid (by rw [hW1]; exact below_alloc _ _)
  have T1 : Hid (Has W1 w.heap.size #[.string b.1, .string b.2.nm, .slice pb b.2.args.length cb]) := Lib.hid (by rw [hW1]; exact Has.new _ _ _)
  have hz1w : W1.heap.size = w.heap.size + 1 := by rw [hW1]; simp
  have hW1le : W1.heap.size ≤ w.heap.size + 1 := Nat.le_of_eq hz1w
  have HBI := Lib.hid (fun w' (k : Below W1.heap.size W1 w') => KB.wide (ok' := (· < w.heap.size + 1)) (KB.keep hb fun g o hlt => (next0 B1.out k).cell (p := ⟨g, o, none⟩) (Nat.lt_of_lt_of_le hlt hB)) fun g hlt => by omega)
  have HT := Lib.hid (fun w' (k : Below W1.heap.size W1 w') => three (T1.out.step0 k))
  have HR := Lib.hid hR
  have HB := Lib.hid hB
  have hls : s.length ≤ 1000000 := hn
  have ST0 : Hid (PutSt b s 0 false []) := Lib.hid (Or.inr ⟨rfl, rfl, fun x hx => by simp at hx⟩)
  have SE := Lib.hid (fun out (h : PutSt b s s.length true out) => show out = putS b s from by
    rcases h with ⟨_, h, _⟩ | ⟨h, _⟩
    · rw [h, List.take_length]
    · cases h)
  have SF := Lib.hid (fun out (h : PutSt b s s.length false out) => show out ++ [b] = putS b s from by
    rcases h with ⟨h, _⟩ | ⟨_, h1, h2⟩
    · cases h
    · rw [List.take_length] at h1 h2
      rw [put_none h2, h1])
  have SL := Lib.hid (fun k dn out (h : PutSt b s k dn out) => show out.length ≤ s.length + 1 from by
    rcases h with ⟨_, h, _⟩ | ⟨_, h, _⟩
    · rw [h, put_len, List.length_take]; omega
    · rw [h, List.length_take]; omega)
  have ST1 := Lib.hid (fun k out (x : Bd) (h : PutSt b s k true out) (hx : s[k]? = some x) => st_true h hx)
  have ST2 := Lib.hid (fun k out (x : Bd) (h : PutSt b s k false out) (hx : s[k]? = some x) (hz : ltB b.1 x.1 = false) => st_false h hx hz)
  have ST3 := Lib.hid (fun k out (x : Bd) (h : PutSt b s k false out) (hx : s[k]? = some x) (hz : ltB b.1 x.1 = true) => st_hit h hx hz)
  have OA := Lib.hid (fun (w2 w3 : World) (o : Obj) (L : List (Bd × Value)) (v : Value) (x : Bd × Value) (g cap : Nat) (h : OwnQ (w.heap.size + 1) w2 L v) (k : Below W1.heap.size W1 w2) hx hown hgrow => OwnQ.add (o := o) (w3 := w3) (g := g) (cap := cap) (x := x) h (by have := k.size; omega) hx hown hgrow)
  generalize hln : s.length = n at *
  have HLN := Lib.hid hln
  clear hs hR hB hn hb hln
  have HPB := Lib.hid (rfl : PutSt b s = PutSt b s)
  unfold InsR
  go_enter Tryz.func61, Tryz.ntmps61
  go_upto_region 1 with fail
  rw [← hW1]
  clear hW1
  go_wp2_with fail
  go_loopw [5, 6, 7] (fun v dv i wr => ∃ (k : Nat) (dn : Bool) (L : List (Bd × Value)), k ≤ n ∧ dv = .bool dn ∧ i = .int .i64 k ∧ Hid (PutSt b s k dn (L.map (·.1))) ∧ Hid (OwnQ (w.heap.size + 1) wr L v) ∧ Hid (Below W1.heap.size W1 wr)) (fun _ _ i _ => n - (intOf i).toNat)
  case atStart => exact ⟨0, false, [], Nat.zero_le _, rfl, rfl, ST0, Lib.hid (OwnQ.nil _ _), Lib.hid (Below.refl _ _)⟩
  case round =>
    obtain ⟨k, dn, L, hk, rfl, rfl, hP, hO, hD⟩ := hrel
    obtain ⟨va, vc, rfl⟩ := hO.out.form
    have hLn : L.length ≤ 1000001 := by have := SL.out _ _ _ hP.out; rw [List.length_map] at this; omega
    obtain ⟨y1, y2, y3⟩ := HT.out wr hD.out
    have hzr : w.heap.size + 1 ≤ wr.heap.size := by have := hD.out.size; omega
    have A1 := bd3 hLn
    have A2 := bd4 hLn
    have B1' := bd1 hLn
    have B2' := bd2 hLn
    have hzb2 : w.heap.size + 1 ≤ (wr.alloc (.cells #[.string b.1, .string b.2.nm, .slice pb b.2.args.length cb] 52)).heap.size := by simp; omega
    by_cases hlt : k < n
    · obtain ⟨x, g1, o, q, d, hx, rfl, hg, c1, c2, c3, hxs, hxn, hxv⟩ := (RowS.deep HR.out (next0 B1.out hD.out) HB.out) k (by rw [HLN.out]; exact hlt)
      have XC := Lib.hid (fun w' (g : Below (w.heap.size + 1) wr w') => And.intro ((g.cell (p := ⟨g1, _, none⟩) (by have := HB.out; show g1 < w.heap.size + 1; omega)).trans c1) (And.intro ((g.cell (p := ⟨g1, _, none⟩) (by have := HB.out; show g1 < w.heap.size + 1; omega)).trans c2) ((g.cell (p := ⟨g1, _, none⟩) (by have := HB.out; show g1 < w.heap.size + 1; omega)).trans c3)))
      have XI : Hid (KB.inn (· < w.heap.size + 1) wr (x, .slice q x.2.args.length d)) := Lib.hid ⟨hxs.weaken fun b hlt => by have := HB.out; omega, hxn, hxv⟩
      obtain ⟨z, hz⟩ : ∃ z, Op.bytesLess b.1.toList x.1.toList = z := ⟨_, rfl⟩
      have HZ : Hid (ltB b.1 x.1 = z) := Lib.hid (by unfold ltB; rw [← hz, ByteArray.toList_eq, ByteArray.toList_eq])
      have S1 := Lib.hid (fun out h => ST1.out k out x h hx)
      have S2 := Lib.hid (fun out h hz => ST2.out k out x h hx hz)
      have S3 := Lib.hid (fun out h hz => ST3.out k out x h hx hz)
      have hzr2 : w.heap.size + 1 ≤ (wr.alloc (.cells #[.string x.1, .string x.2.nm, .slice q x.2.args.length d] 52)).heap.size := by simp; omega
      clear hxs hxn hxv hx SE SF SL ST1 ST2 ST3 ST0
      cases dn
      · cases z
        · go_wp2_with fail
          go_quiet (fail)
          all_goals
            go_wp2_with (at_builtin; refine wpList_append_lies _ rfl _ _ 22 rfl (w.heap.size + 1) 52 i0 zB 3 56 Tryz.underlying22 hi hz0 hz1 hz2 rfl (by decide) (.slice va L.length vc) L.length (KB.flat L) rfl (hO.out.1.alloc _) ⟨wr.heap.size, 0, none⟩ 1 1 [.string x.1, .string x.2.nm, .slice q x.2.args.length d] rfl rfl (newsK _ _ _ _ _) (one_B _ _ _ _ _) (by decide) A1 A2 hzr2 (wr.heap.size + 1) (by simp) ?_; intro g5 cap5 w7 hown hgrow hat hlt5)
            obtain ⟨O7, B7⟩ := OA.out (wr.drewN nq) w7 _ L _ (x, .slice q x.2.args.length d) g5 cap5 (hO.out.drewN nq) (below_drewN hD.out nq) (KB.keep XI.out fun _ _ _ => rfl) hown hgrow
            have O7 := Lib.hid O7
            have D7 : Hid (Below W1.heap.size W1 w7) := Lib.hid ((below_drewN hD.out nq).trans (B7.mono hW1le))
            clear hown hgrow hat B7
            go_wp2_with fail
            go_roundw
            case rel => exact ⟨k + 1, false, L ++ [(x, .slice q x.2.args.length d)], by omega, rfl, by go_num, Lib.hid (by rw [List.map_append]; exact S2.out _ hP.out HZ.out), O7, D7⟩
            case measure => simp [intOf]; omega
        · go_wp2_with fail
          go_quiet (fail)
          all_goals
            go_upto_region 8 with (at_builtin; refine wpList_append_lies _ rfl _ _ 22 rfl (w.heap.size + 1) 52 i0 zB 3 56 Tryz.underlying22 hi hz0 hz1 hz2 rfl (by decide) (.slice va L.length vc) L.length (KB.flat L) rfl (hO.out.1.alloc _) ⟨wr.heap.size, 0, none⟩ 1 1 [.string b.1, .string b.2.nm, .slice pb b.2.args.length cb] rfl rfl (newsK _ _ _ _ _) (one_B _ _ _ _ _) (by decide) A1 A2 hzb2 (wr.heap.size + 1) (by simp) ?_; intro g5 cap5 w7 hown hgrow hat hlt5)
            obtain ⟨O7, B7⟩ := OA.out (wr.drewN nq) w7 _ L _ (b, .slice pb b.2.args.length cb) g5 cap5 (hO.out.drewN nq) (below_drewN hD.out nq) (KB.keep (HBI.out wr hD.out) fun _ _ _ => rfl) hown hgrow
            have D7 : Hid (Below W1.heap.size W1 w7) := Lib.hid ((below_drewN hD.out nq).trans (B7.mono hW1le))
            have BW : Below (w.heap.size + 1) wr w7 := (below_drewN (Below.refl _ _) nq).trans B7
            obtain ⟨d1, d2, d3⟩ := XC.out w7 BW
            have XI7 : Hid (KB.inn (· < w.heap.size + 1) w7 (x, .slice q x.2.args.length d)) := Lib.hid (KB.keep XI.out fun g o hlt => BW.cell (p := ⟨g, o, none⟩) hlt)
            have LL : (L ++ [(b, Value.slice pb b.2.args.length cb)]).length = L.length + 1 := by simp
            have O7 := Lib.hid O7
            have OR : w7.ownsRow (w.heap.size + 1) 52 3 (.slice (some ⟨g5, 0, none⟩) (L.length + 1) cap5) (L.length + 1) (KB.flat (L ++ [(b, Value.slice pb b.2.args.length cb)])) := by have := O7.out.1; rw [LL] at this; exact this
            have hz7 : w.heap.size + 1 ≤ (w7.alloc (.cells #[.string x.1, .string x.2.nm, .slice q x.2.args.length d] 52)).heap.size := Nat.le_trans hzr (Nat.le_trans BW.size (by simp))
            clear hown hgrow hat B7 y1 y2 y3 c1 c2 c3 BW
            go_wp2_with (at_builtin; refine wpList_append_lies _ rfl _ _ 22 rfl (w.heap.size + 1) 52 i0 zB 3 56 Tryz.underlying22 hi hz0 hz1 hz2 rfl (by decide) (.slice (some ⟨g5, 0, none⟩) (L.length + 1) cap5) (L.length + 1) (KB.flat (L ++ [(b, Value.slice pb b.2.args.length cb)])) rfl (OR.alloc _) ⟨w7.heap.size, 0, none⟩ 1 1 [.string x.1, .string x.2.nm, .slice q x.2.args.length d] rfl rfl (newsK _ _ _ _ _) (one_B _ _ _ _ _) (by decide) B1' B2' hz7 (w7.heap.size + 1) (by simp) ?_; intro g6 cap6 w8 hown hgrow hat hlt6)
            obtain ⟨O8, B8⟩ := OA.out w7 w8 _ (L ++ [(b, .slice pb b.2.args.length cb)]) (.slice (some ⟨g5, 0, none⟩) (L.length + 1) cap5) (x, .slice q x.2.args.length d) g6 cap6 O7.out D7.out XI7.out (by rw [LL]; exact hown) hgrow
            have O8 := Lib.hid O8
            rw [LL] at O8
            have D8 : Hid (Below W1.heap.size W1 w8) := Lib.hid (D7.out.trans (B8.mono hW1le))
            clear hown hgrow hat B8
            go_wp2_with fail
            go_roundw
            case rel => exact ⟨k + 1, true, L ++ [(b, .slice pb b.2.args.length cb)] ++ [(x, .slice q x.2.args.length d)], by omega, rfl, by go_num, Lib.hid (by rw [List.map_append, List.map_append]; exact S3.out _ hP.out HZ.out), O8, D8⟩
            case measure => simp [intOf]; omega
      · go_wp2_with fail
        go_quiet (fail)
        all_goals
          go_wp2_with (at_builtin; refine wpList_append_lies _ rfl _ _ 22 rfl (w.heap.size + 1) 52 i0 zB 3 56 Tryz.underlying22 hi hz0 hz1 hz2 rfl (by decide) (.slice va L.length vc) L.length (KB.flat L) rfl (hO.out.1.alloc _) ⟨wr.heap.size, 0, none⟩ 1 1 [.string x.1, .string x.2.nm, .slice q x.2.args.length d] rfl rfl (newsK _ _ _ _ _) (one_B _ _ _ _ _) (by decide) A1 A2 hzr2 (wr.heap.size + 1) (by simp) ?_; intro g5 cap5 w7 hown hgrow hat hlt5)
          obtain ⟨O7, B7⟩ := OA.out (wr.drewN nq) w7 _ L _ (x, .slice q x.2.args.length d) g5 cap5 (hO.out.drewN nq) (below_drewN hD.out nq) (KB.keep XI.out fun _ _ _ => rfl) hown hgrow
          have O7 := Lib.hid O7
          have D7 : Hid (Below W1.heap.size W1 w7) := Lib.hid ((below_drewN hD.out nq).trans (B7.mono hW1le))
          clear hown hgrow hat B7
          go_wp2_with fail
          go_roundw
          case rel => exact ⟨k + 1, true, L ++ [(x, .slice q x.2.args.length d)], by omega, rfl, by go_num, Lib.hid (by rw [List.map_append]; exact S1.out _ hP.out), O7, D7⟩
          case measure => simp [intOf]; omega
    · obtain rfl : k = n := by omega
      cases dn
      · go_wp2_with (at_builtin; refine wpList_append_lies _ rfl _ _ 22 rfl (w.heap.size + 1) 52 i0 zB 3 56 Tryz.underlying22 hi hz0 hz1 hz2 rfl (by decide) (.slice va L.length vc) L.length (KB.flat L) rfl (hO.out.1.alloc _) ⟨wr.heap.size, 0, none⟩ 1 1 [.string b.1, .string b.2.nm, .slice pb b.2.args.length cb] rfl rfl (newsK _ _ _ _ _) (one_B _ _ _ _ _) (by decide) A1 A2 hzb2 (wr.heap.size + 1) (by simp) ?_; intro g5 cap5 w7 hown hgrow hat hlt5)
        obtain ⟨O7, B7⟩ := OA.out wr w7 _ L _ (b, .slice pb b.2.args.length cb) g5 cap5 hO.out hD.out (HBI.out wr hD.out) hown hgrow
        have S7 : Hid (SIn (· < w7.heap.size) w7 (putS b s) (.slice (some ⟨g5, 0, none⟩) (L.length + 1) cap5)) := Lib.hid (by
          have := O7.sin (by have := B7.size; omega)
          rw [List.map_append] at this
          rw [← SF.out _ hP.out]
          exact this)
        have D7 : Hid (Below w.heap.size w w7) := Lib.hid ((next0 B1.out hD.out).trans (B7.mono (Nat.le_succ _)))
        clear hown hgrow hat B7 O7
        go_wp2_with fail
        go_ret
        exact ⟨_, rfl, S7.out, D7.out⟩
      · have S7 : Hid (SIn (· < wr.heap.size) wr (putS b s) (.slice va L.length vc)) := Lib.hid (by
          rw [← SE.out _ hP.out]
          exact hO.out.sin (by omega))
        go_wp2_with fail
        go_ret
        exact ⟨_, rfl, S7.out, next0 B1.out hD.out⟩
end UniR
end Go.Proofs.YtihbnonbhelbmaaGreatDoor
