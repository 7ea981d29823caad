/- slices.DeleteFunc at outputs, with the closure of evaluate.outputs. No conditions but those that are written. Made by gnDf.py. -/
import Derived.Test.YtkfeliogglnngaaGreatNetDo
import Derived.Lib.SliceRun
namespace Go.Proofs.YtkfeliogglnngaaGreat
open Go Go.RowKit
namespace NetDf
open Kit LexM TermM TermI NetM NetN NetK NetA NetC NetI NetMk NetNu NetOk NetEv NetBo NetDo
section
variable {α : Type}
theorem set_take {l : List α} {i : Nat} {x : α} (h : i < l.length) : (l.set i x).take (i + 1) = l.take i ++ [x] := by
  refine List.ext_getElem? fun q => ?_
  rw [List.getElem?_take, List.getElem?_append, List.length_take, Nat.min_eq_left (by omega), List.getElem?_set, List.getElem?_take]
  by_cases h1 : q < i
  · rw [if_pos (by omega), if_neg (by omega), if_pos h1, if_pos h1]
  · by_cases h2 : q = i
    · subst h2
      rw [if_pos (by omega), if_pos rfl, if_pos h, if_neg h1, Nat.sub_self]
      rfl
    · rw [if_neg (by omega), if_neg h1, List.getElem?_eq_none (by simp; omega)]
theorem set_drop {l : List α} {i j : Nat} {x : α} (h : i < j) : (l.set i x).drop j = l.drop j := by
  refine List.ext_getElem? fun q => ?_
  rw [List.getElem?_drop, List.getElem?_drop, List.getElem?_set, if_neg (by omega)]
theorem drop_get {a b : List α} {j : Nat} (h : a.drop j = b.drop j) : a[j]? = b[j]? := by
  have := congrArg (fun l => l[0]?) h
  simpa using this
theorem drop_more {a b : List α} {j : Nat} (h : a.drop j = b.drop j) : a.drop (j + 1) = b.drop (j + 1) := by
  have := congrArg (fun l => l.drop 1) h
  simpa [List.drop_drop] using this
theorem kept_next {p : α → Bool} {l : List α} {j : Nat} {x : α} (h : l[j]? = some x) : (l.take (j + 1)).filter p = (l.take j).filter p ++ (if p x then [x] else []) := by
  rw [List.take_add_one, h, List.filter_append]
  congr 1
  simp [List.filter_cons]
end
theorem run_clear_wide {P : Program} (w : World) (t e ty : TypeId) (z : Value) (ht : P.underlying t = some (.slice e)) (hv : ∀ w, (zeroValue e).run P w = .ok z w) (b o n c : Nat) (hn : 0 < n)
    (hc : ∀ j, j < (Builtin.zeroCells z.cells n).toList.length → (w.cell? ⟨b, o + j, none⟩).isSome = true) (hf : ∀ j, w.frozen? ⟨b, o + j, none⟩ = false) (h1 : ∀ v ∈ (Builtin.zeroCells z.cells n).toList, v.oneCell' = true) :
    (Builtin.clear_ #[t] ty #[.slice (some ⟨b, o, none⟩) n c]).run P w = .ok (.tuple #[]) (w.setCells b o (Builtin.zeroCells z.cells n).toList) := by
  have hst := run_storeCells_cells (P := P) b o (Builtin.zeroCells z.cells n).toList 0 w (by simpa using hc) (by intro j _; simpa using hf j) h1
  simp only [Nat.add_zero] at hst
  obtain ⟨m, rfl⟩ : ∃ m, n = m + 1 := ⟨n - 1, by omega⟩
  simp [Builtin.clear_, run_underlying ht, hv, hst]
abbrev zO : Value := .agg #[.int .i64 0, .int .i64 0, .string ⟨#[]⟩, .slice none 0 0, .int .i64 0]
theorem zero_o (w : World) : (zeroValue 74).run Tryz.prog w = .ok zO w := by kernel_rfl
theorem zero_len (n : Nat) : (Builtin.zeroCells zO.cells n).toList.length = n * 5 := by simp [Builtin.zeroCells, Value.cells]
theorem zero_one (n : Nat) : ∀ v ∈ (Builtin.zeroCells zO.cells n).toList, v.oneCell' = true := by
  intro v hv
  have hv2 : v ∈ ((Array.range (n * 5)).map fun i => (#[.int .i64 0, .int .i64 0, .string ⟨#[]⟩, .slice none 0 0, .int .i64 0] : Array Value)[i % 5]!).toList := hv
  rw [Array.toList_map] at hv2
  obtain ⟨i, _, rfl⟩ := List.mem_map.1 hv2
  have h5 : i % 5 < 5 := Nat.mod_lt _ (by decide)
  generalize i % 5 = q at h5 ⊢
  match q, h5 with
  | 0, _ => rfl
  | 1, _ => rfl
  | 2, _ => rfl
  | 3, _ => rfl
  | 4, _ => rfl
/-- What is left of a row. -/
def keptO (f : Ou → Bool) (R : List (Ou × Value)) : List (Ou × Value) := R.filter fun x => !f x.1
def DelQ (f : Ou → Bool) (R : List (Ou × Value)) (g cap B : Nat) (w0 : World) (e : Ending) (w' : World) : Prop :=
  e = .returned (.slice (some ⟨g, 0, none⟩) (keptO f R).length cap) ∧ (∀ (k : Nat) (x : Ou × Value), (keptO f R)[k]? = some x → ∀ (j : Nat) (u : Value), (KO.cells x)[j]? = some u → w'.cell? ⟨g, k * 5 + j, none⟩ = some u) ∧ Below B w0 w' ∧ g < w'.heap.size
set_option maxRecDepth 100000 in
set_option maxHeartbeats 6400000 in
theorem delete_any (f : Ou → Bool) (R : List (Ou × Value)) (g n cap gr gv B : Nat) (w0 w : World) (hR : RowC w g R) (hn : R.length = n) (hm : n ≤ 1000000) (hcap : n ≤ cap) (hcm : cap ≤ 1000000) (hD : Below B w0 w) (hB : B ≤ w0.heap.size) (hg : B ≤ g) (hf : ∀ x ∈ R, ∃ p c, x.2 = .slice p x.1.2.2.1.args.length c) (hc : CloP f R gr gv B w0) :
    Calls Tryz.prog 61 #[.slice (some ⟨g, 0, none⟩) n cap, .func (.func 60) #[] #[.pointer (some ⟨gr, 0, none⟩), .pointer (some ⟨gv, 0, none⟩)]] w (DelQ f R g cap B w0) := by
  have I1 := Lib.hid (idx_any f R g n cap gr gv B w0 w hR hn hm hD hB hf hc)
  have HR := Lib.hid hR
  have HN := Lib.hid hn
  have HF := Lib.hid hf
  have HC := Lib.hid hc
  have DD := Lib.hid hD
  have HG := Lib.hid hg
  have hsz : B ≤ w.heap.size := Nat.le_trans hB hD.size
  clear hR hn hf hc hD hB hg
  unfold IdxQ at I1
  go_enter Tryz.func61, Tryz.ntmps61
  go_wp2_with fail
  refine I1.out.mono ?_
  rintro e w3 ⟨i, rfl, hi, g3⟩
  have D3 : Hid (Below B w0 w3) := Lib.hid (DD.out.trans (g3.mono hsz))
  have R3 := Lib.hid (HR.out.below g3)
  have HI := Lib.hid hi
  clear g3 I1 HR hi
  by_cases him : i = -1
  · have AL : Hid (keptO f R = R) := Lib.hid (by
      rcases HI.out with ⟨_, h⟩ | ⟨k, _, e, _⟩
      · unfold keptO
        exact List.filter_eq_self.2 fun x hx => by rw [h x hx]; rfl
      · omega)
    have i1 : (i == -1) = true := by simp [him]
    clear him
    go_wp2_with fail
    go_ret
    refine ⟨by rw [AL.out, HN.out]; rfl, fun k x hx j u hu => ?_, D3.out, R3.out.lt⟩
    rw [AL.out] at hx
    exact R3.out.cell k x hx j u hu
  have i1 : (i == -1) = false := by simp [him]
  obtain ⟨k0, x0, hk0, hx0, hf0, hT0⟩ : ∃ (k : Nat) (x : Ou × Value), i = (k : Int) ∧ R[k]? = some x ∧ f x.1 = true ∧ ∀ j y, j < k → R[j]? = some y → f y.1 = false := by
    rcases HI.out with ⟨e, _⟩ | h
    · exact absurd e him
    · exact h
  subst hk0
  have hk0n : k0 < n := by have := (List.getElem?_eq_some_iff.1 hx0).1; have := HN.out; omega
  have K0 : Hid (((R.take (k0 + 1)).filter fun x => !f x.1) = R.take k0) := Lib.hid (by
    rw [kept_next hx0, hf0]
    have e : ((R.take k0).filter fun x => !f x.1) = R.take k0 := List.filter_eq_self.2 fun x hx => by
      obtain ⟨j, hj⟩ := List.mem_iff_getElem?.1 hx
      have hj2 : j < k0 := by have := (List.getElem?_eq_some_iff.1 hj).1; simp at this; omega
      rw [List.getElem?_take, if_pos hj2] at hj
      rw [hT0 j x hj2 hj]
      rfl
    rw [e]
    simp)
  have KF : Hid (keptO f R = (R.take n).filter fun x => !f x.1) := Lib.hid (by rw [← HN.out, List.take_length]; rfl)
  clear him HI hx0 hf0 hT0
  go_wp2_with fail
  go_loopw [5, 6] (fun a b wr => ∃ (i j : Nat) (R2 : List (Ou × Value)), a = .int .i64 i ∧ b = .int .i64 j ∧ j ≤ n ∧ i < j ∧ Hid (i = ((R.take j).filter fun x => !f x.1).length) ∧ Hid (R2.length = n) ∧ Hid (R2.take i = (R.take j).filter fun x => !f x.1) ∧ Hid (R2.drop j = R.drop j) ∧ Hid (RowC wr g R2) ∧ Hid (Below B w0 wr)) (fun _ b _ => n - (intOf b).toNat)
  case atStart => exact ⟨k0, k0 + 1, R, rfl, by go_num, by omega, by omega, Lib.hid (by rw [K0.out, List.length_take]; have := HN.out; omega), HN, Lib.hid K0.out.symm, Lib.hid rfl, R3, D3⟩
  case round =>
    obtain ⟨i, j, R2, rfl, rfl, hj, hij, hI, hL, hTk, hDr, hC, hD⟩ := hrel
    generalize hwo : wr = wo at *
    clear hwo
    have hzo : B ≤ wo.heap.size := by have h1 := HG.out; have h2 := hC.out.lt; omega
    by_cases hlt : j < n
    · obtain ⟨⟨⟨r1, v1, t1, g1⟩, a1⟩, hx⟩ : ∃ x, R[j]? = some x := ⟨R[j]'(by rw [HN.out]; exact hlt), by simp⟩
      obtain ⟨pa, ca, ea⟩ := HF.out _ (List.mem_of_getElem? hx)
      dsimp only at ea
      subst ea
      have hx2 : R2[j]? = some ((r1, v1, t1, g1), .slice pa t1.args.length ca) := by rw [drop_get hDr.out]; exact hx
      obtain ⟨c0, c1, c2, c3, c4⟩ := hC.out.five hx2
      have KN := Lib.hid (kept_next (p := fun x => !f x.1) hx)
      have C1 := Lib.hid (HC.out j r1 v1 g1 t1 (.slice pa t1.args.length ca))
      have HX := Lib.hid hx
      have j0 : (0 : Int) ≤ (j : Int) := by omega
      have j1 : (j : Int) < n := by omega
      have j2 : (0 : Int) ≤ (i : Int) := by omega
      have j3 : (i : Int) < n := by omega
      obtain ⟨W3, hW3⟩ : ∃ z, z = wo.alloc (.cells #[.int .i64 r1, .int .i64 v1, .string t1.nm, .slice pa t1.args.length ca, .int .i64 g1] 74) := ⟨_, rfl⟩
      have J3 : Hid (Below wo.heap.size wo W3) := Lib.hid (by rw [hW3]; exact below_alloc _ _)
      have H3 : Hid (Has W3 wo.heap.size #[.int .i64 r1, .int .i64 v1, .string t1.nm, .slice pa t1.args.length ca, .int .i64 g1]) := Lib.hid (by rw [hW3]; exact Has.new _ _ _)
      have D4 : Hid (Below B w0 W3) := Lib.hid (hD.out.trans (J3.out.mono hzo))
      have C2 := Lib.hid (C1.out W3 HX.out D4.out)
      have KI := Lib.hid (drop_more hDr.out)
      clear hx hx2 C1
      obtain ⟨b, hb⟩ : ∃ b, f (r1, v1, t1, g1) = b := ⟨_, rfl⟩
      dsimp only at KN
      rw [hb] at C2 KN
      clear hb
      go_upto_region 8 with fail
      rw [← hW3]
      clear hW3 c0 c1 c2 c3 c4
      have y0 := H3.out.cell 0
      have y1 := H3.out.cell 1
      have y2 := H3.out.cell 2
      have y3 := H3.out.cell 3
      have y4 := H3.out.cell 4
      go_wp2_with fail
      refine C2.out.mono ?_
      rintro e w5 ⟨rfl, g5⟩
      have J5 := Lib.hid g5
      have D5 : Hid (Below B w0 w5) := Lib.hid (D4.out.trans (g5.mono (Nat.le_trans hzo J3.out.size)))
      have RC := Lib.hid ((hC.out.below J3.out).below g5)
      clear g5 C2 y0 y1 y2 y3 y4
      cases b
      · have KN2 : Hid ((R.take (j + 1)).filter (fun x => !f x.1) = (R.take j).filter (fun x => !f x.1) ++ [((r1, v1, t1, g1), .slice pa t1.args.length ca)]) := Lib.hid (by rw [KN.out]; rfl)
        have hil : i < R2.length := by rw [hL.out]; omega
        obtain ⟨⟨⟨r2, v2, t2, g2⟩, a2⟩, hx3⟩ : ∃ x, R2[i]? = some x := ⟨R2[i], List.getElem?_eq_getElem hil⟩
        obtain ⟨d0, d1, d2, d3, d4⟩ := RC.out.five hx3
        have f0 := RC.out.free (i * 5)
        have f1 := RC.out.free (i * 5 + 1)
        have f2 := RC.out.free (i * 5 + 2)
        have f3 := RC.out.free (i * 5 + 3)
        have f4 := RC.out.free (i * 5 + 4)
        have RN := Lib.hid (put5_row (r := r1) (v := v1) (t := t1) (gt := g1) (a := .slice pa t1.args.length ca) RC.out hil)
        have DN := Lib.hid (put5_below (k := i) (r := r1) (v := v1) (s := t1.nm) (gt := g1) (a := .slice pa t1.args.length ca) D5.out HG.out)
        have LN : Hid ((R2.set i ((r1, v1, t1, g1), .slice pa t1.args.length ca)).length = n) := Lib.hid (by rw [List.length_set, hL.out])
        have IN : Hid (i + 1 = ((R.take (j + 1)).filter fun x => !f x.1).length) := Lib.hid (by rw [KN2.out, List.length_append, ← hI.out]; rfl)
        have TN : Hid ((R2.set i ((r1, v1, t1, g1), .slice pa t1.args.length ca)).take (i + 1) = (R.take (j + 1)).filter fun x => !f x.1) := Lib.hid (by rw [set_take hil, hTk.out, KN2.out])
        have DRN : Hid ((R2.set i ((r1, v1, t1, g1), .slice pa t1.args.length ca)).drop (j + 1) = R.drop (j + 1)) := Lib.hid (by rw [set_drop (by omega)]; exact KI.out)
        have y0 := (H3.out.step0 J5.out).cell 0
        have y1 := (H3.out.step0 J5.out).cell 1
        have y2 := (H3.out.step0 J5.out).cell 2
        have y3 := (H3.out.step0 J5.out).cell 3
        have y4 := (H3.out.step0 J5.out).cell 4
        clear KN KN2 hil hx3 KI HX
        unfold put5 at RN DN
        go_wp2_with fail
        go_roundw
        case rel => first | exact ⟨i + 1, j + 1, _, by go_num, by go_num, by omega, by omega, IN, LN, TN, DRN, RN, DN⟩ | ((repeat (apply Exists.intro)); refine ⟨?_, rfl⟩; exact ⟨i + 1, j + 1, _, by go_num, by go_num, by omega, by omega, IN, LN, TN, DRN, RN, DN⟩)
        case measure => simp [intOf] <;> omega
      · have KN2 : Hid ((R.take (j + 1)).filter (fun x => !f x.1) = (R.take j).filter (fun x => !f x.1)) := Lib.hid (by rw [KN.out]; simp)
        have IN : Hid (i = ((R.take (j + 1)).filter fun x => !f x.1).length) := Lib.hid (by rw [KN2.out]; exact hI.out)
        have TN : Hid (R2.take i = (R.take (j + 1)).filter fun x => !f x.1) := Lib.hid (by rw [KN2.out]; exact hTk.out)
        clear KN KN2 HX
        go_wp2_with fail
        go_roundw
        case rel => first | exact ⟨i, j + 1, R2, rfl, by go_num, by omega, by omega, IN, hL, TN, KI, RC, D5⟩ | ((repeat (apply Exists.intro)); refine ⟨?_, rfl⟩; exact ⟨i, j + 1, R2, rfl, by go_num, by omega, by omega, IN, hL, TN, KI, RC, D5⟩)
        case measure => simp [intOf] <;> omega
    · obtain rfl : j = n := by omega
      have EK : Hid (keptO f R = R2.take i) := Lib.hid (by rw [KF.out, hTk.out])
      have EL : Hid ((keptO f R).length = i) := Lib.hid (by rw [KF.out, ← hI.out])
      have hin : 0 < j - i := by omega
      have CLR := Lib.hid (fun ty => run_clear_wide (P := Tryz.prog) wo 26 74 ty zO Tryz.underlying26 zero_o g (i * 5) (j - i) (cap - i) hin (fun q hq => by
        rw [zero_len] at hq
        obtain ⟨x, hx⟩ : ∃ x, R2[i + q / 5]? = some x := ⟨R2[i + q / 5]'(by rw [hL.out]; omega), by simp⟩
        have hm5 : q % 5 < (KO.cells x).length := by rw [KO.len]; exact Nat.mod_lt _ (by decide)
        have := hC.out.cell (i + q / 5) x hx (q % 5) _ (List.getElem?_eq_getElem hm5)
        rw [show (i + q / 5) * 5 + q % 5 = i * 5 + q by omega] at this
        rw [this]
        rfl) (fun q => hC.out.free _) (zero_one _))
      obtain ⟨wz, hwz⟩ : ∃ z, z = wo.setCells g (i * 5) (Builtin.zeroCells zO.cells (j - i)).toList := ⟨_, rfl⟩
      have FZ : Hid (∀ q, q < i * 5 → wz.cell? ⟨g, q, none⟩ = wo.cell? ⟨g, q, none⟩) := Lib.hid (fun q hq => by rw [hwz]; exact World.cell?_setCells_out g _ _ _ _ (fun _ _ => Or.inl hq))
      have SZ : Hid (∀ (L : List Value) (o : Nat) (u : World), (u.setCells g o L).heap.size = u.heap.size) := Lib.hid (fun L => by
        induction L with
        | nil => intro o u; rfl
        | cons v L ih => intro o u; show ((u.setCell ⟨g, o, none⟩ v).setCells g (o + 1) L).heap.size = _; rw [ih]; simp [World.setCell])
      have BZ : Hid (∀ (L : List Value) (o : Nat) (u : World), Below B w0 u → Below B w0 (u.setCells g o L)) := Lib.hid (fun L => by
        induction L with
        | nil => intro o u h; exact h
        | cons v L ih => intro o u h; exact ih (o + 1) _ (h.setCell (p := ⟨g, o, none⟩) HG.out v))
      have DZ : Hid (Below B w0 wz) := Lib.hid (by rw [hwz]; exact BZ.out _ _ _ hD.out)
      have LZ : Hid (g < wz.heap.size) := Lib.hid (by rw [hwz, SZ.out]; exact hC.out.lt)
      have clr := CLR.out
      rw [← hwz] at clr
      have s1 : (0 : Int) ≤ (i : Int) := by omega
      have s2 : (i : Int) ≤ (j : Int) := by omega
      have s3 : (i : Int) ≤ (cap : Int) := by omega
      have s4 : i ≤ cap := by omega
      have s5 : i ≤ j := by omega
      have s6 : i < cap := by omega
      clear hwz CLR SZ BZ
      go_wp2_with fail
      go_ret
      refine ⟨by rw [EL.out]; rfl, fun k x hx q u hu => ?_, DZ.out, LZ.out⟩
      have hk := (List.getElem?_eq_some_iff.1 hx).1
      rw [EL.out] at hk
      rw [EK.out, List.getElem?_take, if_pos hk] at hx
      have hq := (List.getElem?_eq_some_iff.1 hu).1
      rw [KO.len] at hq
      have hq5 : q < 5 := hq
      rw [FZ.out _ (by omega)]
      exact hC.out.cell k x hx q u hu
end NetDf
end Go.Proofs.YtkfeliogglnngaaGreat
