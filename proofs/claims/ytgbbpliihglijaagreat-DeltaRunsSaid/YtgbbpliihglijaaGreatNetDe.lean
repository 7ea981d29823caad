/- delta's New: an engine for no facts and no moves. Conditions: a valid network, and those of the package's Check. Made by gnDe.py. -/
import Derived.Test.YtgbbpliihglijaaGreatNetDt
import Derived.Test.YtgbbpliihglijaaGreatNetVo
import Derived.Test.YtgbbpliihglijaaGreatNetRz
import Derived.Test.YtgbbpliihglijaaGreatNetSa
namespace Go.Proofs.YtgbbpliihglijaaGreat
open Go Go.RowKit
namespace NetDe
open Kit TermM TermI TermH NetM NetN NetK NetA NetC NetI NetMk NetNu NetOk NetEv NetBo NetMb NetS NetVv NetVo NetDn NetDg NetDc NetTn NetDp NetEm NetLt NetDx NetDw NetDu NetDs NetRe NetRr NetRz
theorem mkb (k : Nat) (hk : k ≤ 1000000) (w : World) : (Instr.makeSlice 47 (.int .i64 k) (.int .i64 k)).run Tryz.prog w = .ok (.slice (some ⟨w.heap.size, 0, none⟩) k k) (w.alloc (.cells (madeCells (Value.bool false).cells (k * 1)) 4)) := by
  obtain ⟨i, hi, hz, hs, hb⟩ := info_parts Tryz.infoB
  have h1 := run_make (P := Tryz.prog) w 47 4 i (.bool false) Tryz.underlying47 hi hz .i64 .i64 k k (by omega) (Int.le_refl _) (by rw [hb]; omega) (by omega)
  rw [hs, Int.toNat_natCast] at h1
  exact h1
theorem rep_flat (k : Nat) : (madeCells #[Value.bool false] k).toList = (List.replicate k false).flatMap KB.cells := by
  rw [toList_madeCells_one]
  induction k with
  | zero => rfl
  | succ k ih => rw [List.replicate_succ, List.replicate_succ, List.flatMap_cons, ← ih]; rfl
theorem rep_row {k g : Nat} {w : World} {ok : Nat → Prop} (hk : k ≤ 1000000) (h : Has w g (madeCells #[Value.bool false] k)) (hg : ok g) : RowE KB ok w (List.replicate k false) (.slice (some ⟨g, 0, none⟩) k k) := by
  have := NetSa.row_has (K := KB) (L := List.replicate k false) (rep_flat k) h hg (by rw [List.length_replicate]; unfold maxLen; omega) (fun _ _ => trivial)
  rw [List.length_replicate] at this
  exact this
/-- A new engine's block and its two rows. -/
structure NewP (nb ni m gv : Nat) (wx wy : World) : Prop where
  ex : ∃ gf gm, Has wy (wx.heap.size + 1 + 1) #[.pointer none, .slice none 0 0, .slice (some ⟨gv, 0, none⟩) m m, .slice (some ⟨gf, 0, none⟩) nb nb, .slice (some ⟨gm, 0, none⟩) ni ni, .int .i64 0] ∧ RowE KB (fun b => wx.heap.size ≤ b ∧ b < wx.heap.size + 2) wy (List.replicate nb false) (.slice (some ⟨gf, 0, none⟩) nb nb) ∧ RowE KB (fun b => wx.heap.size ≤ b ∧ b < wx.heap.size + 2) wy (List.replicate ni false) (.slice (some ⟨gm, 0, none⟩) ni ni)
  bl : Below wx.heap.size wx wy
  sz : wy.heap.size = wx.heap.size + 3
theorem has_drew {w : World} {g : Nat} {cs : Array Value} (h : Has w g cs) : Has w.drew g cs := h
theorem new_a (nb ni m gv : Nat) (wx : World) (hb : nb ≤ 1000000) (hi : ni ≤ 1000000) : NewP nb ni m gv wx (((wx.alloc (.cells (madeCells #[.bool false] nb) 4)).alloc (.cells (madeCells #[.bool false] ni) 4)).alloc (.cells #[.pointer none, .slice none 0 0, .slice (some ⟨gv, 0, none⟩) m m, .slice (some ⟨wx.heap.size, 0, none⟩) nb nb, .slice (some ⟨wx.heap.size + 1, 0, none⟩) ni ni, .int .i64 0] 68)).drew :=
  ⟨⟨_, _, has_drew (Has.new2 _ _ _ _ _), rep_row hb (has_drew (((Has.new _ _ _).alloc _).alloc _)) ⟨Nat.le_refl _, by omega⟩, rep_row hi (has_drew ((Has.new1 _ _ _ _).alloc _)) ⟨by omega, by omega⟩⟩, (next0 (next0 (below_alloc _ _) (below_alloc _ _)) (below_alloc _ _)).drew, by simp⟩
theorem new_b (nb ni m gv : Nat) (wx : World) (hb : nb ≤ 1000000) (hi : ni ≤ 1000000) : NewP nb ni m gv wx (((wx.alloc (.cells (madeCells #[.bool false] ni) 4)).alloc (.cells (madeCells #[.bool false] nb) 4)).alloc (.cells #[.pointer none, .slice none 0 0, .slice (some ⟨gv, 0, none⟩) m m, .slice (some ⟨wx.heap.size + 1, 0, none⟩) nb nb, .slice (some ⟨wx.heap.size, 0, none⟩) ni ni, .int .i64 0] 68)).drew :=
  ⟨⟨_, _, has_drew (Has.new2 _ _ _ _ _), rep_row hb (has_drew ((Has.new1 _ _ _ _).alloc _)) ⟨by omega, by omega⟩, rep_row hi (has_drew (((Has.new _ _ _).alloc _).alloc _)) ⟨Nat.le_refl _, by omega⟩⟩, (next0 (next0 (below_alloc _ _) (below_alloc _ _)) (below_alloc _ _)).drew, by simp⟩
/-- The cells of one gate. -/
def gC (x : Gt × Int × Value) : List Value := [.int .i64 x.1.1, .int .i64 x.1.2.1, .int .i64 (x.1.2.2.length : Int), .int .i64 x.2.1, x.2.2]
def gL (n : Nt) (V : List Bool) (RV : List Value) : List (Gt × Int × Value) := (n.gates.zip RV).map fun p => (p.1, (trN V p.1.2.2 : Int), p.2)
def gR (n : Nt) (V : List Bool) (RV : List Value) (k : Nat) : List Value := ((gL n V RV).take k).flatMap gC
theorem gl_get {n : Nt} {V : List Bool} {RV : List Value} {k : Nat} {g : Gt} {v : Value} (hg : n.gates[k]? = some g) (hv : RV[k]? = some v) : (gL n V RV)[k]? = some (g, (trN V g.2.2 : Int), v) := by
  unfold gL
  rw [List.getElem?_map, (List.getElem?_zip_eq_some (z := (g, v))).2 ⟨hg, hv⟩]
  rfl
theorem gr_next {n : Nt} {V : List Bool} {RV : List Value} {k : Nat} {g : Gt} {v : Value} (hg : n.gates[k]? = some g) (hv : RV[k]? = some v) : gR n V RV (k + 1) = gR n V RV k ++ [.int .i64 g.1, .int .i64 g.2.1, .int .i64 (g.2.2.length : Int), .int .i64 (trN V g.2.2 : Int), v] := by
  unfold gR
  rw [List.take_add_one, gl_get hg hv, List.flatMap_append]
  rfl
theorem gr_at {n : Nt} {V : List Bool} {RV : List Value} {m k : Nat} {g : Gt} {v u : Value} {t : Nat} (hk : k < m) (hg : n.gates[k]? = some g) (hv : RV[k]? = some v) (hu : (gC (g, (trN V g.2.2 : Int), v))[t]? = some u) : (gR n V RV m)[k * 5 + t]? = some u := by
  unfold gR
  exact NetSa.flat_get gC 5 (fun _ => rfl) _ k (g, (trN V g.2.2 : Int), v) t u (by rw [List.getElem?_take, if_pos hk]; exact gl_get hg hv) hu
theorem trn_next {V : List Bool} {l : List Int} {j : Nat} {x : Int} {b : Bool} (hx : l[j]? = some x) (hb : vAt V x = b) : trN V (l.take (j + 1)) = trN V (l.take j) + (if b then 1 else 0) := by
  unfold trN
  rw [List.take_add_one, hx]
  show ((l.take j ++ [x]).filter (vAt V)).length = _
  rw [List.filter_append, List.length_append]
  cases b <;> simp [hb]
theorem Tryz.infoGt : (Tryz.prog.info? 72).map (fun i => (i.zero, i.size, i.bytes)) = some (some (.agg #[.int .i64 0, .int .i64 0, .int .i64 0, .int .i64 0, .slice none 0 0]), 5, 56) := by kernel_rfl
theorem one_g (a b c d : Int) (p : Option Addr) (m e : Nat) : ∀ u ∈ [Value.int .i64 a, .int .i64 b, .int .i64 c, .int .i64 d, .slice p m e], u.oneCell' = true := by
  intro u hu
  simp at hu
  rcases hu with rfl | rfl | rfl | rfl | rfl <;> rfl
theorem Lt.grown {ex : Nat → Prop} {a b c : World} {row : Option Nat} (h : Lt ex a b) (hg : b.grownBy c row) (hr : ∀ k, row = some k → ex k ∨ a.heap.size ≤ k) : Lt ex a c :=
  ⟨hg.os.trans h.os, hg.tape.trans h.tape, hg.output.trans h.output, Nat.le_trans h.size hg.size, fun i hi hn => (hg.block i (Nat.lt_of_lt_of_le hi h.size) (fun e => by rcases hr i e.symm with h | h; exact hn h; omega)).trans (h.block i hi hn)⟩
theorem has_grown {w w' : World} {g : Nat} {cs : Array Value} {row : Option Nat} (h : Has w g cs) (hg : w.grownBy w' row) (hne : row ≠ some g) : Has w' g cs := by
  have hl := h.lt
  obtain ⟨t, h⟩ := h
  exact ⟨t, (hg.block g hl (fun e => hne e.symm)).trans h⟩
theorem own_put {base m s : Nat} {w : World} {e : TypeId} {v u : Value} {cs : List Value} {p : Addr} (h : w.ownsRow base e s v m cs) (hp : p.block < base) : (w.setCell p u).ownsRow base e s v m cs := by
  refine ⟨h.1, ?_⟩
  rcases h.2 with h | ⟨k, cap, cur, e1, e2, e3, e4⟩
  · exact Or.inl h
  · exact Or.inr ⟨k, cap, cur, e1, e2, (Below.heap_setCell _ _ _ _ (by omega)).trans e3, e4⟩
/-- What New answers for a valid network. -/
def NewQ (n : Nt) (w : World) (e : Ending) (w' : World) : Prop := ∃ (ge gb gv cb : Nat) (R : List Value) (vf vm : Value), e = .returned (.tuple #[.pointer (some ⟨ge, 0, none⟩), .int .i64 0]) ∧ EngU n ge gb gv cb n.gates.length R (valsN [] [] n) (memB [] n.bases.length) (memB [] n.inputs.length) vf vm 0 w' ∧ (w.heap.size ≤ ge ∧ w.heap.size ≤ gb ∧ w.heap.size ≤ gv) ∧ Below w.heap.size w w'
theorem eng_mk {n : Nt} (dk : DOk n) {w7 wr : World} {ge gb gv gr b0 lo cb : Nat} {RV : List Value} {vf vm : Value}
    (hE : Has wr ge #[.pointer (some ⟨ge, 0, none⟩), .slice (some ⟨gb, 0, none⟩) n.gates.length cb, .slice (some ⟨gv, 0, none⟩) n.gates.length n.gates.length, vf, vm, .int .i64 0])
    (hO : wr.ownsRow w7.heap.size 72 5 (.slice (some ⟨gb, 0, none⟩) n.gates.length cb) n.gates.length (gR n (valsN [] [] n) RV n.gates.length)) (hL : Lt (· = ge) w7 wr)
    (O7 : w7.ownsRow b0 4 1 (.slice (some ⟨gv, 0, none⟩) n.gates.length n.gates.length) n.gates.length (boolV (valsN [] [] n)))
    (RF : RowE KB (fun b => lo ≤ b ∧ b < lo + 2) w7 (List.replicate n.bases.length false) vf) (RM : RowE KB (fun b => lo ≤ b ∧ b < lo + 2) w7 (List.replicate n.inputs.length false) vm)
    (HR : RowsR (gr + 1) w7 gr n.gates.length (readersN n) RV) (hgv : gv < lo) (hge : ge = lo + 2) (hgr : ge < gr) :
    EngU n ge gb gv cb n.gates.length RV (valsN [] [] n) (memB [] n.bases.length) (memB [] n.inputs.length) vf vm 0 wr := by
  have hgb := hO.lt gb rfl
  have hgv7 := O7.lt gv rfl
  have hr7 := HR.lt
  have hs := hL.size
  have VL := valsn_len [] [] n
  have cc : ∀ b o : Nat, b < w7.heap.size → b ≠ ge → wr.cell? ⟨b, o, none⟩ = w7.cell? ⟨b, o, none⟩ := fun b o h1 h2 => hL.cell h1 h2
  have inv : ∀ (j : Nat) a b c, (kdL n)[j]? = some (a, b, c) → ∃ g v, n.gates[j]? = some g ∧ RV[j]? = some v ∧ j < n.gates.length ∧ a = g.1 ∧ b = g.2.1 ∧ c = (g.2.2.length : Int) := fun j a b c h => by
    have hj := (List.getElem?_eq_some_iff.1 h).1
    rw [kd_len] at hj
    have hg : n.gates[j]? = some n.gates[j] := List.getElem?_eq_getElem hj
    rw [kd_get hg] at h
    injection h with h
    injection h with h1 h2
    injection h2 with h2 h3
    exact ⟨_, _, hg, List.getElem?_eq_getElem (by rw [HR.lenV]; exact hj), hj, h1.symm, h2.symm, h3.symm⟩
  have cell : ∀ (j : Nat) g v (t : Nat) u, n.gates[j]? = some g → RV[j]? = some v → t < 5 → (gC (g, (trN (valsN [] [] n) g.2.2 : Int), v))[t]? = some u → wr.cell? ⟨gb, j * 5 + t, none⟩ = some u := fun j g v t u hg hv ht hu => by
    have hj := (List.getElem?_eq_some_iff.1 hg).1
    exact (hO.cellAt (j * 5 + t) (by omega)).trans (gr_at hj hg hv hu)
  have hrd : ∀ (j : Nat) v, RV[j]? = some v → RowE KN (fun b => gr + 1 ≤ b ∧ b < w7.heap.size) w7 (rdN n j) v := fun j v hv => by
    have hj : j < n.gates.length := by have := (List.getElem?_eq_some_iff.1 hv).1; rw [HR.lenV] at this; exact this
    have hl : (readersN n)[j]? = some (rdN n j) := by
      have h1 := NetDr.readers_at (n := n) (j := j) (dok_all dk) hj
      have h2 : (readersN n)[j]? = some ((readersN n)[j]'(by rw [HR.lenR]; exact hj)) := List.getElem?_eq_getElem _
      rw [re_get h2] at h1
      rw [h2, h1]
      rfl
    refine own_row (HR.own j _ v hl hv) fun x hx => ?_
    have := rd_range hx
    have := dk.ok.few
    unfold I64
    omega
  refine ⟨⟨kd_len n, tr_len _ n, HR.lenV, VL, hE.cell 0, hE.cell 1, hE.cell 2, fun j b hb => ?_, fun j a b c h => ?_, fun j t h => ?_, fun j v h => ?_, fun q => hO.frozenAt q, fun q => ?_, by omega, by omega, by omega⟩, hE.cell 3, hE.cell 4, hE.cell 5, fun q => hE.free q, by omega, hgb.2, by omega, ?_, ?_, fun j v hv => ?_⟩
  · have hj := (List.getElem?_eq_some_iff.1 hb).1
    exact (cc gv j (by omega) (by omega)).trans ((O7.cellAt j (by omega)).trans (boolv_get hb))
  · obtain ⟨g, v, hg, hv, hj, rfl, rfl, rfl⟩ := inv j a b c h
    exact ⟨cell j g v 0 _ hg hv (by omega) rfl, cell j g v 1 _ hg hv (by omega) rfl, cell j g v 2 _ hg hv (by omega) rfl⟩
  · have hj := (List.getElem?_eq_some_iff.1 h).1
    rw [tr_len] at hj
    have hg : n.gates[j]? = some n.gates[j] := List.getElem?_eq_getElem hj
    have hv : RV[j]? = some (RV[j]'(by rw [HR.lenV]; exact hj)) := List.getElem?_eq_getElem _
    rw [tr_get hg] at h
    rw [← Option.some.inj h]
    exact cell j _ _ 3 _ hg hv (by omega) rfl
  · have hj : j < n.gates.length := by have := (List.getElem?_eq_some_iff.1 h).1; rw [HR.lenV] at this; exact this
    exact cell j _ _ 4 _ (List.getElem?_eq_getElem hj) h (by omega) rfl
  · exact (hL.frozen (by omega) (by omega)).trans (O7.frozenAt q)
  · exact (RF.keep fun b o hb => cc b o (by omega) (by omega)).wide fun b hb => ⟨by omega, by omega, by omega, by omega⟩
  · exact (RM.keep fun b o hb => cc b o (by omega) (by omega)).wide fun b hb => ⟨by omega, by omega, by omega, by omega⟩
  · exact ((hrd j v hv).keep fun b o hb => cc b o hb.2 (by omega)).wide fun b hb => ⟨by omega, by omega, by omega, by omega⟩
set_option maxRecDepth 100000 in
set_option maxHeartbeats 6400000 in
theorem new_any (n : Nt) (h : Nh) (B : Nat) (w : World) (hB : B ≤ w.heap.size) (k : NetIn (· < B) w n h) (hz : SzN n) (hck : chkN groundB n = 0) :
    Calls Tryz.prog 7 #[.agg #[.slice h.gp n.gates.length h.gc, .slice h.rp n.roles.length h.rc, .slice h.bp n.bases.length h.bc, .slice h.ip n.inputs.length h.ic, .slice h.ap n.initial.length h.ac, .slice h.np n.next.length h.nc, .slice h.lp n.legal.length h.lc, .slice h.op n.goals.length h.oc, .slice h.sp n.sees.length h.sc, .int .i64 n.last, .bool n.hid]] w (NewQ n w) := by
  obtain ⟨i0, hi0, hi1, hi2, hi3⟩ := info_parts Tryz.infoGt
  obtain ⟨W1, hW1⟩ : ∃ z, z = w.alloc (.cells #[.slice h.gp n.gates.length h.gc, .slice h.rp n.roles.length h.rc, .slice h.bp n.bases.length h.bc, .slice h.ip n.inputs.length h.ic, .slice h.ap n.initial.length h.ac, .slice h.np n.next.length h.nc, .slice h.lp n.legal.length h.lc, .slice h.op n.goals.length h.oc, .slice h.sp n.sees.length h.sc, .int .i64 n.last, .bool n.hid] 28) := ⟨_, rfl⟩
  have K1 : Hid (Below w.heap.size w W1) := Lib.hid (by rw [hW1]; exact below_alloc _ _)
  have H1 : Hid (Has W1 w.heap.size (netC n h)) := Lib.hid (by rw [hW1]; exact Has.new _ _ _)
  have hzz := K1.out.size
  have KW := Lib.hid (fun w' (q : Below W1.heap.size W1 w') => show Below w.heap.size w w' from K1.out.trans (q.mono hzz))
  have NK := Lib.hid (fun w' (q : Below W1.heap.size W1 w') => k.deep (KW.out w' q) hB)
  have HQ := Lib.hid (fun w' (q : Below W1.heap.size W1 w') => hasN (H1.out.step0 q))
  have OK := Lib.hid (nok hck)
  have DK := Lib.hid (dok hck)
  have HZZ := Lib.hid hzz
  have hnb : n.bases.length ≤ 1000000 := by have := OK.out.next; have := hz.next; omega
  have hni : n.inputs.length ≤ 1000000 := by have := OK.out.legal; have := hz.legal; omega
  have EV : evE groundB [] [] n = 0 := ev_ok hck rfl rfl
  have C1 : Hid (Calls Tryz.prog 24 #[.agg #[.slice h.gp n.gates.length h.gc, .slice h.rp n.roles.length h.rc, .slice h.bp n.bases.length h.bc, .slice h.ip n.inputs.length h.ic, .slice h.ap n.initial.length h.ac, .slice h.np n.next.length h.nc, .slice h.lp n.legal.length h.lc, .slice h.op n.goals.length h.oc, .slice h.sp n.sees.length h.sc, .int .i64 n.last, .bool n.hid], .slice none 0 0, .slice none 0 0] W1 (ValsO (valsN [] [] n) 0 W1)) := Lib.hid (by
    have := values_own n h [] [] B W1 (.slice none 0 0) (.slice none 0 0) (Nat.le_trans hB hzz) (NK.out W1 (Below.refl _ _)) hz (RowE.nil _ _) (RowE.nil _ _)
    rw [evv_ok EV, EV] at this
    exact this)
  have RDF := Lib.hid (fun w' (q : Below W1.heap.size W1 w') => readers_any n h B w' (Nat.le_trans hB (KW.out w' q).size) (NK.out w' q) hz hck)
  have MK1 := Lib.hid (fun w' => mkb n.bases.length hnb w')
  have MK2 := Lib.hid (fun w' => mkb n.inputs.length hni w')
  obtain ⟨q1, q2, q3, q4, q5, q6, q7, q8, q9, q10, q11⟩ := HQ.out W1 (Below.refl _ _)
  go_enter Tryz.func7, Tryz.ntmps7
  go_upto_region 1 with fail
  rw [← hW1]
  clear hW1
  go_wp2_with fail
  refine C1.out.mono ?_
  rintro e wx ⟨v4, rfl, hv4, _, g4⟩
  obtain ⟨gv, rfl, O4⟩ := hv4 rfl
  have D4 := Lib.hid (next0 (Below.refl W1.heap.size W1) g4)
  clear hv4 g4 C1 q1 q2 q3 q4 q5 q6 q7 q8 q9 q10 q11
  obtain ⟨q1, q2, q3, q4, q5, q6, q7, q8, q9, q10, q11⟩ := HQ.out wx D4.out
  go_upto_region 4 with fail
  have mk1 := MK1.out
  have mk2 := MK2.out
  generalize hnb' : n.bases.length = nb at *
  have HNB := Lib.hid hnb'
  clear hnb'
  generalize hni' : n.inputs.length = ni at *
  have HNI := Lib.hid hni'
  clear hni'
  obtain ⟨-, -, y3, -⟩ := HQ.out (wx.alloc (.cells (madeCells #[.bool false] ni) 4)) (next0 D4.out (below_alloc _ _))
  obtain ⟨-, -, -, y4, -⟩ := HQ.out (wx.alloc (.cells (madeCells #[.bool false] nb) 4)) (next0 D4.out (below_alloc _ _))
  have hbb := Lib.hid hnb
  have hii := Lib.hid hni
  generalize hgm : (valsN [] [] n).length = mv at *
  have HMV := Lib.hid hgm
  clear hgm
  obtain ⟨ge, hge⟩ : ∃ ge, ge = wx.heap.size + 1 + 1 := ⟨_, rfl⟩
  have HGE := Lib.hid hge
  go_cut [6] (fun s wy => s = .pointer (some ⟨ge, 0, none⟩) ∧ Hid (NewP nb ni mv gv wx wy))
  case first =>
    clear HGE
    subst hge
    go_region
    all_goals
      go_wp2_with fail
      go_meet
      exact ⟨rfl, by first | exact Lib.hid (new_a nb ni mv gv wx hbb.out hii.out) | exact Lib.hid (new_b nb ni mv gv wx hbb.out hii.out)⟩
  case rest =>
  generalize hww : wc = wy at *
  clear hww hge mk1 mk2 MK1 MK2 y3 y4 q1 q2 q3 q4 q5 q6 q7 q8 q9 q10 q11
  obtain ⟨rfl, hP⟩ := hcut
  obtain ⟨gf, gm, P1, P2, P3⟩ := hP.out.ex
  rw [← HGE.out] at P1
  have BY := Lib.hid hP.out.bl
  have SY := Lib.hid hP.out.sz
  have D5 := Lib.hid (next0 D4.out hP.out.bl)
  obtain ⟨x0, x1, x2, x3, x4, x5⟩ : wy.cell? ⟨ge, 0, none⟩ = some (.pointer none) ∧ wy.cell? ⟨ge, 1, none⟩ = some (.slice none 0 0) ∧ True ∧ True ∧ True ∧ wy.frozen? ⟨ge, 0, none⟩ = false := ⟨P1.cell 0, P1.cell 1, trivial, trivial, trivial, P1.free 0⟩
  have HZ := Lib.hid (P1.set 0 (.pointer (some ⟨ge, 0, none⟩)))
  clear hP
  obtain ⟨wz, hwz⟩ : ∃ z, z = wy.setCell ⟨ge, 0, none⟩ (.pointer (some ⟨ge, 0, none⟩)) := ⟨_, rfl⟩
  rw [← hwz] at HZ
  have GEX : Hid (wx.heap.size ≤ ge) := Lib.hid (by rw [HGE.out]; omega)
  have BZ : Hid (Below wx.heap.size wx wz) := Lib.hid (by rw [hwz]; exact BY.out.setCell (p := ⟨ge, 0, none⟩) GEX.out _)
  have SZ : Hid (wz.heap.size = wx.heap.size + 3) := Lib.hid (by rw [hwz]; simp [World.setCell, SY.out])
  have D6 := Lib.hid (next0 D4.out BZ.out)
  have oth : ∀ b o : Nat, b ≠ ge → wz.cell? ⟨b, o, none⟩ = wy.cell? ⟨b, o, none⟩ := fun b o hb => by rw [hwz]; exact World.cell?_setCell_other _ _ _ _ (by intro e; injection e with e1 e2; omega)
  have RF := Lib.hid (P2.keep (w' := wz) fun b o hb => oth b o (by have := HGE.out; omega))
  have RM := Lib.hid (P3.keep (w' := wz) fun b o hb => oth b o (by have := HGE.out; omega))
  clear P1 P2 P3 oth BY SY
  have RD := Lib.hid (RDF.out wz D6.out)
  clear RDF
  obtain ⟨q1, q2, q3, q4, q5, q6, q7, q8, q9, q10, q11⟩ := HQ.out wz D6.out
  go_upto_region 6 with fail
  rw [← hwz]
  clear hwz x0 x1 x5
  go_wp2_with fail
  refine RD.out.mono ?_
  rintro e w7 ⟨gr, RV, rfl, hR, hgr, g7⟩
  have D7 := Lib.hid (next0 D6.out g7)
  have E7 := Lib.hid (HZ.out.step0 g7)
  have RF7 := Lib.hid (RF.out.keep (w' := w7) fun b o hb => g7.cell (p := ⟨b, o, none⟩) (show b < wz.heap.size by have := SZ.out; omega))
  have RM7 := Lib.hid (RM.out.keep (w' := w7) fun b o hb => g7.cell (p := ⟨b, o, none⟩) (show b < wz.heap.size by have := SZ.out; omega))
  have O7 := Lib.hid (own_below (own_below O4 BZ.out) g7)
  clear RF RM HZ RD g7 q1 q2 q3 q4 q5 q6 q7 q8 q9 q10 q11
  obtain ⟨q1, q2, q3, q4, q5, q6, q7, q8, q9, q10, q11⟩ := HQ.out w7 D7.out
  have LGE : Hid (ge < w7.heap.size) := Lib.hid E7.out.lt
  have W1GE : Hid (W1.heap.size ≤ ge) := Lib.hid (by have := D4.out.size; have := GEX.out; omega)
  have GRX : Hid (gr < w7.heap.size ∧ ge < gr) := Lib.hid ⟨hR.lt, by have := SZ.out; have := HGE.out; omega⟩
  have GVX : Hid (gv < w7.heap.size ∧ gv ≠ ge) := Lib.hid (by
    have h1 := O7.out.lt gv rfl
    have h2 := O4.lt gv rfl
    exact ⟨h1.2, by have := GEX.out; omega⟩)
  have GVL : Hid (W1.heap.size ≤ gv ∧ gv < wx.heap.size) := Lib.hid (O4.lt gv rfl)
  have HR := Lib.hid hR
  have GTS := Lib.hid (fun k g (hg : n.gates[k]? = some g) w' (q : Below W1.heap.size W1 w') => show ∃ v b o, h.gp = some ⟨b, o, none⟩ ∧ w'.cell? ⟨b, o + k * 3, none⟩ = some (.int .i64 g.1) ∧ w'.cell? ⟨b, o + k * 3 + 1, none⟩ = some (.int .i64 g.2.1) ∧ w'.cell? ⟨b, o + k * 3 + 2, none⟩ = some v ∧ RowE KN (· < B) w' g.2.2 v from by
    obtain ⟨v, b, o, e1, _, e3, e4⟩ := (NK.out w' q).gates.at hg
    exact ⟨v, b, o, e1, by have := e4 0 _ rfl; simpa [KG] using this, by have := e4 1 _ rfl; simpa [KG] using this, by have := e4 2 _ rfl; simpa [KG] using this, e3.1⟩)
  have VC := Lib.hid (fun (t : Nat) b (ht : (valsN [] [] n)[t]? = some b) => show w7.cell? ⟨gv, t, none⟩ = some (.bool b) from (O7.out.cellAt t (by have := (List.getElem?_eq_some_iff.1 ht).1; have := HMV.out; omega)).trans (boolv_get ht))
  have VL := Lib.hid (valsn_len [] [] n)
  have NIL : Hid (w7.ownsRow w7.heap.size 72 5 (.slice none 0 0) 0 (gR n (valsN [] [] n) RV 0)) := Lib.hid ⟨by simp [gR], Or.inl ⟨rfl, rfl⟩⟩
  have hg16 : n.gates.length ≤ 16384 := OK.out.few
  have LIN := Lib.hid (fun k g (hg : n.gates[k]? = some g) => NetRy.gate_lin hck hg)
  clear hR hgr O4 SZ hz hck
  generalize h.gp = gp at *
  go_wp2_with fail
  clear q1 q2 q3 q4 q5 q6 q7 q8 q9 q10 q11
  go_loopw [41] (fun i wr => ∃ (k : Nat) (u : Value), k ≤ n.gates.length ∧ i = .int .i64 k ∧ Hid (Has wr ge #[.pointer (some ⟨ge, 0, none⟩), u, .slice (some ⟨gv, 0, none⟩) mv mv, .slice (some ⟨gf, 0, none⟩) nb nb, .slice (some ⟨gm, 0, none⟩) ni ni, .int .i64 0]) ∧ Hid (wr.ownsRow w7.heap.size 72 5 u k (gR n (valsN [] [] n) RV k)) ∧ Hid (Lt (· = ge) w7 wr)) (fun i _ => n.gates.length - (intOf i).toNat)
  case atStart => exact ⟨0, _, Nat.zero_le _, rfl, E7, NIL, Lib.hid (Lt.refl _ _)⟩
  case round =>
    obtain ⟨k, u, hk, rfl, hE, hO, hL⟩ := hrel
    have DR : Hid (Below W1.heap.size W1 wr) := Lib.hid (D7.out.trans (hL.out.toBelow (B := W1.heap.size) D7.out.size (fun i e => by have := W1GE.out; omega)))
    by_cases hlt : k < n.gates.length
    · obtain ⟨⟨gk, gx, gl⟩, hg⟩ : ∃ g, n.gates[k]? = some g := ⟨n.gates[k]'hlt, by simp⟩
      obtain ⟨v, b, o, rfl, c0, c1, c2, rv⟩ := GTS.out k _ hg wr DR.out
      obtain ⟨p, c, rfl⟩ := rv.form
      obtain ⟨vr, hvr⟩ : ∃ vr, RV[k]? = some vr := ⟨_, List.getElem?_eq_getElem (by rw [HR.out.lenV]; exact hlt)⟩
      obtain ⟨ua, uc, rfl⟩ : ∃ a c, u = .slice a k c := by
        rcases hO.out.2 with ⟨e, hz⟩ | ⟨g, cap, cur, e, _⟩
        · exact ⟨none, 0, by rw [e, hz]⟩
        · exact ⟨_, cap, e⟩
      obtain ⟨rl, hrl⟩ : ∃ rl, (readersN n)[k]? = some rl := ⟨_, List.getElem?_eq_getElem (by rw [HR.out.lenR]; exact hlt)⟩
      obtain ⟨pv, cv, rfl⟩ := form1 (HR.out.own k rl vr hrl hvr)
      have HGN := Lib.hid (gr_next (V := valsN [] [] n) hg hvr)
      have lin := LIN.out k _ hg
      dsimp only at lin
      have OKG := Lib.hid (OK.out.gate k _ hg)
      have j0 : (0 : Int) ≤ (k : Int) := by omega
      have j1 : (k : Int) < n.gates.length := by omega
      have rr := (hL.out.cell (o := k) GRX.out.1 (by have := GRX.out.2; omega)).trans (HR.out.cell k _ hvr)
      obtain ⟨W3, hW3⟩ : ∃ z, z = wr.alloc (.cells #[.int .i64 gk, .int .i64 gx, .slice p gl.length c] 55) := ⟨_, rfl⟩
      have J3 : Hid (Below wr.heap.size wr W3) := Lib.hid (by rw [hW3]; exact below_alloc _ _)
      have S3 : Hid (W3.heap.size = wr.heap.size + 1) := Lib.hid (by rw [hW3]; simp)
      have H3 : Hid (Has W3 wr.heap.size #[.int .i64 gk, .int .i64 gx, .slice p gl.length c]) := Lib.hid (by rw [hW3]; exact Has.new _ _ _)
      have LR := Lib.hid (Nat.lt_of_lt_of_le GRX.out.1 hL.out.size)
      have z1 := (J3.out.cell (p := ⟨gr, k, none⟩) LR.out).trans rr
      have y1 := H3.out.cell 0
      have y2 := H3.out.cell 1
      have y3 := H3.out.cell 2
      have IR := Lib.hid (readn rv (fun b (hb : b < B) => Nat.lt_of_lt_of_le hb (Nat.le_trans hB (Nat.le_trans (KW.out wr DR.out).size (Nat.le_refl _)))))
      have hcap : gl.length ≤ maxLen := by obtain ⟨_, h1, h2⟩ := rv.cap; exact Nat.le_trans h1 h2
      unfold maxLen at hcap
      clear hg hvr hrl rv rr
      obtain ⟨gx2, hgx2⟩ : ∃ q, q = W3.heap.size := ⟨_, rfl⟩
      have HX2 := Lib.hid hgx2
      generalize hnl : gl.length = nl at *
      have HNL := Lib.hid hnl
      clear hnl
      generalize rl.length = nr at *
      go_upto_region 10 with fail
      rw [← hW3]
      clear hW3 c0 c1 c2
      have ZB : Hid (Below W3.heap.size W3 (W3.alloc (.cells #[.int .i64 0, .int .i64 0, .int .i64 0, .int .i64 0, .slice none 0 0] 72))) := Lib.hid (below_alloc _ _)
      have v1 := (H3.out.step0 ZB.out).cell 0
      have v2 := (H3.out.step0 ZB.out).cell 1
      have v3 := (H3.out.step0 ZB.out).cell 2
      have v4 := (ZB.out.cell (p := ⟨gr, k, none⟩) (by have := S3.out; have := LR.out; show gr < _; omega)).trans z1
      go_cut [10] (fun s wz => s = .pointer (some ⟨gx2, 0, none⟩) ∧ Hid (Has wz gx2 #[.int .i64 gk, .int .i64 gx, .int .i64 nl, .int .i64 ((trN (valsN [] [] n) (gl.take 0) : Nat) : Int), .slice pv nr cv]) ∧ Hid (Below W3.heap.size W3 wz))
      case first =>
        clear HX2
        subst hgx2
        go_region
        all_goals
          go_wp2_with fail
          go_meet
          exact ⟨rfl, Lib.hid (has_drew (Has.new _ _ _)), Lib.hid (below_alloc _ _).drew⟩
      case rest =>
      generalize hww : wc = W4 at *
      clear z1 y1 y2 v1 v2 v3 v4 ZB hgx2 hww
      obtain ⟨rfl, H4, J4⟩ := hcut
      have y3 := (H3.out.step0 J4.out).cell 2
      have J34 : Hid (Below wr.heap.size wr W4) := Lib.hid (next0 J3.out J4.out)
      go_wp2_with fail
      generalize hwo : wr = wo at *
      clear hwo
      go_loopw [61] (fun t wq => ∃ j : Nat, j ≤ nl ∧ t = .int .i64 j ∧ Hid (Has wq gx2 #[.int .i64 gk, .int .i64 gx, .int .i64 nl, .int .i64 ((trN (valsN [] [] n) (gl.take j) : Nat) : Int), .slice pv nr cv]) ∧ Hid (Lt (· = gx2) W4 wq)) (fun t _ => nl - (intOf t).toNat)
      case atStart => exact ⟨0, Nat.zero_le _, rfl, H4, Lib.hid (Lt.refl _ _)⟩
      case round =>
        generalize hwq : wr = wq at *
        clear hwq
        obtain ⟨j, hj, rfl, hH, hQ⟩ := hrel
        have DQ : Hid (Below wo.heap.size wo wq) := Lib.hid (J34.out.trans (hQ.out.toBelow (B := wo.heap.size) J34.out.size (fun i e => by have := HX2.out; have := S3.out; omega)))
        by_cases hlj : j < nl
        · obtain ⟨x, hx⟩ : ∃ x, gl[j]? = some x := ⟨gl[j]'(by rw [HNL.out]; exact hlj), by simp⟩
          obtain ⟨g', o', rfl, z1⟩ := IR.out j x hx wq DQ.out
          have hxr := OKG.out.rd x (List.mem_of_getElem? hx)
          obtain ⟨t, rfl⟩ : ∃ t : Nat, x = (t : Int) := ⟨x.toNat, by omega⟩
          obtain ⟨bx, hbx⟩ : ∃ bx, (valsN [] [] n)[t]? = some bx := ⟨_, List.getElem?_eq_getElem (by rw [VL.out]; omega)⟩
          have z2 := (DQ.out.cell (p := ⟨gv, t, none⟩) (Nat.lt_of_lt_of_le GVX.out.1 hL.out.size)).trans ((hL.out.cell (o := t) GVX.out.1 GVX.out.2).trans (VC.out t bx hbx))
          have TN := Lib.hid (trn_next hx (v_get (V := valsN [] [] n) (x := (t : Int)) (by rw [Int.toNat_natCast]; exact hbx)))
          have t0 : (0 : Int) ≤ (t : Int) := by omega
          have t1 : (t : Int) < mv := by have := hxr.2; have := VL.out; have := HMV.out; omega
          have t2 : (0 : Int) ≤ (j : Int) := by omega
          have t3 : (j : Int) < nl := by omega
          have tl : trN (valsN [] [] n) (gl.take j) ≤ j := by have := tr_le (valsN [] [] n) (gl.take j); rw [List.length_take] at this; omega
          clear hx hbx hxr
          generalize trN (valsN [] [] n) (gl.take j) = tn at *
          cases bx
          · have H5 : Hid (Has wq gx2 #[.int .i64 gk, .int .i64 gx, .int .i64 nl, .int .i64 ((trN (valsN [] [] n) (gl.take (j + 1)) : Nat) : Int), .slice pv nr cv]) := Lib.hid (by rw [TN.out]; exact hH.out)
            clear TN
            go_wp2_with fail
            go_roundw
            case rel => first | exact ⟨j + 1, by omega, by go_num, H5, hQ⟩ | ((repeat (apply Exists.intro)); refine ⟨?_, rfl⟩; exact ⟨j + 1, by omega, by go_num, H5, hQ⟩)
            case measure => simp [intOf] <;> omega
          · have hw : IntKind.i64.wrap ((tn : Int) + 1) = (tn : Int) + 1 := by rw [IntKind.wrap_i64]; omega
            have x1 := hH.out.cell 3
            have x2 := hH.out.free 3
            have H5 : Hid (Has (wq.setCell ⟨gx2, 3, none⟩ (.int .i64 ((tn : Int) + 1))) gx2 #[.int .i64 gk, .int .i64 gx, .int .i64 nl, .int .i64 ((trN (valsN [] [] n) (gl.take (j + 1)) : Nat) : Int), .slice pv nr cv]) := Lib.hid (by rw [TN.out]; exact hH.out.set 3 _)
            have Q5 := Lib.hid (hQ.out.put (p := ⟨gx2, 3, none⟩) (Or.inl rfl) (.int .i64 ((tn : Int) + 1)))
            clear TN
            go_wp2_with fail
            go_roundw
            case rel => first | exact ⟨j + 1, by omega, by go_num, H5, Q5⟩ | ((repeat (apply Exists.intro)); refine ⟨?_, rfl⟩; exact ⟨j + 1, by omega, by go_num, H5, Q5⟩)
            case measure => simp [intOf] <;> omega
        · obtain rfl : j = nl := by omega
          have et : gl.take j = gl := List.take_of_length_le (by have := HNL.out; omega)
          have HF : Hid (Has wq gx2 #[.int .i64 gk, .int .i64 gx, .int .i64 j, .int .i64 ((trN (valsN [] [] n) gl : Nat) : Int), .slice pv nr cv]) := Lib.hid (by have h := hH.out; rw [et] at h; exact h)
          have EQ := Lib.hid (hE.out.step0 DQ.out)
          have OQ := Lib.hid (own_below hO.out DQ.out)
          have LQ : Hid (Lt (· = ge) w7 wq) := Lib.hid (hL.out.below DQ.out)
          have PN : Hid (∀ (v' : Value) (w' : World), w'.ownsRow w7.heap.size 72 5 v' (k + 1) (gR n (valsN [] [] n) RV k ++ [.int .i64 gk, .int .i64 gx, .int .i64 j, .int .i64 ((trN (valsN [] [] n) gl : Nat) : Int), .slice pv nr cv]) → w'.ownsRow w7.heap.size 72 5 v' (k + 1) (gR n (valsN [] [] n) RV (k + 1))) := Lib.hid (fun v' w' h => by rw [HGN.out]; exact h)
          have UB : Hid (∀ q, (Value.slice ua k uc).ownBlock = some q → w7.heap.size ≤ q) := Lib.hid (fun q e => (hO.out.lt q e).1)
          have AA1 : k + 1 ≤ maxLen := by unfold maxLen; omega
          have AA2 : (k + 1) * 56 ≤ 140737488355328 := by omega
          obtain ⟨f0, f1, f2, f3, f4⟩ : wq.cell? ⟨gx2, 0, none⟩ = some (.int .i64 gk) ∧ wq.cell? ⟨gx2, 1, none⟩ = some (.int .i64 gx) ∧ wq.cell? ⟨gx2, 2, none⟩ = some (.int .i64 j) ∧ wq.cell? ⟨gx2, 3, none⟩ = some (.int .i64 ((trN (valsN [] [] n) gl : Nat) : Int)) ∧ wq.cell? ⟨gx2, 4, none⟩ = some (.slice pv nr cv) := ⟨HF.out.cell 0, HF.out.cell 1, HF.out.cell 2, HF.out.cell 3, HF.out.cell 4⟩
          have e1 := EQ.out.cell 1
          clear IR OKG HGN hH hQ HF et H3 y3 lin
          generalize trN (valsN [] [] n) gl = tn at *
          have AA3 : w7.heap.size ≤ (wq.alloc (.cells #[.int .i64 gk, .int .i64 gx, .int .i64 j, .int .i64 (tn : Int), .slice pv nr cv] 72)).heap.size := by have := LQ.out.size; simp; omega
          have e1b := (EQ.out.alloc (.cells #[.int .i64 gk, .int .i64 gx, .int .i64 j, .int .i64 (tn : Int), .slice pv nr cv] 72)).cell 1
          obtain ⟨WD, hWD⟩ : ∃ z, z = (wq.alloc (.cells #[.int .i64 gk, .int .i64 gx, .int .i64 j, .int .i64 (tn : Int), .slice pv nr cv] 72)).drew := ⟨_, rfl⟩
          have BO : WD.ownsRow w7.heap.size 72 5 (.slice ua k uc) k (gR n (valsN [] [] n) RV k) := by rw [hWD]; exact OQ.out.alloc _
          have BN : ∀ (q : Nat) (u : Value), [Value.int .i64 gk, .int .i64 gx, .int .i64 j, .int .i64 (tn : Int), .slice pv nr cv][q]? = some u → WD.cell? ((⟨wq.heap.size, 0, none⟩ : Addr).add q) = some u := by rw [hWD]; exact World.news_of_block (heap_alloc_new wq _)
          have BS : w7.heap.size ≤ WD.heap.size := by rw [hWD]; exact AA3
          have BH : WD.heap.size = wq.heap.size + 1 := by rw [hWD]; simp
          have BE : Hid (Has WD ge #[.pointer (some ⟨ge, 0, none⟩), .slice ua k uc, .slice (some ⟨gv, 0, none⟩) mv mv, .slice (some ⟨gf, 0, none⟩) nb nb, .slice (some ⟨gm, 0, none⟩) ni ni, .int .i64 0]) := Lib.hid (by rw [hWD]; exact has_drew (EQ.out.alloc _))
          have BL : Hid (Lt (· = ge) w7 WD) := Lib.hid (by rw [hWD]; exact LQ.out.below (below_alloc wq _).drew)
          go_upto_region 17 with fail
          go_region_law (rw [← hWD]; refine step_append_lies _ rfl _ _ 66 rfl w7.heap.size 72 i0 (.agg #[.int .i64 0, .int .i64 0, .int .i64 0, .int .i64 0, .slice none 0 0]) 5 56 Tryz.underlying66 hi0 hi1 hi2 hi3 rfl (by decide) (.slice ua k uc) k (gR n (valsN [] [] n) RV k) rfl BO ⟨wq.heap.size, 0, none⟩ 1 1 [.int .i64 gk, .int .i64 gx, .int .i64 j, .int .i64 (tn : Int), .slice pv nr cv] rfl rfl BN (one_g _ _ _ _ _ _ _) (by decide) AA1 AA2 BS (wq.heap.size + 1) BH ?_; intro g6 c6 w6 hown6 hgrow6 hat6 hlt6; have O6 := Lib.hid (PN.out _ _ hown6); have E6 := Lib.hid (has_grown BE.out hgrow6 (fun e => by have := UB.out _ e; have := LGE.out; omega)); have L6 := Lib.hid (Lt.grown BL.out hgrow6 (fun q e => Or.inr (UB.out q e))); have s1 := E6.out.cell 1; have s2 := E6.out.free 1; clear hown6 hgrow6 hat6 hlt6)
          all_goals
            have E8 := Lib.hid (E6.out.set 1 (.slice (some ⟨g6, 0, none⟩) (k + 1) c6))
            have O8 := Lib.hid (own_put (p := ⟨ge, 1, none⟩) (u := .slice (some ⟨g6, 0, none⟩) (k + 1) c6) O6.out LGE.out)
            have L8 := Lib.hid (L6.out.put (p := ⟨ge, 1, none⟩) (Or.inl rfl) (.slice (some ⟨g6, 0, none⟩) (k + 1) c6))
            go_wp2_with fail
            go_roundw
            case rel => first | exact ⟨k + 1, _, by omega, by go_num, E8, O8, L8⟩ | ((repeat (apply Exists.intro)); refine ⟨?_, rfl⟩; exact ⟨k + 1, _, by omega, by go_num, E8, O8, L8⟩)
            case measure => simp [intOf] <;> omega
    · obtain rfl : k = n.gates.length := by omega
      have NZ : 0 < n.gates.length := by have := OK.out.last; omega
      obtain ⟨gb, cb, rfl⟩ : ∃ gb cb, u = .slice (some ⟨gb, 0, none⟩) n.gates.length cb := by
        rcases hO.out.2 with ⟨_, hz⟩ | ⟨g, cap, cur, e, _⟩
        · omega
        · exact ⟨g, cap, e⟩
      have hmv : mv = n.gates.length := HMV.out.symm.trans VL.out
      have hgb := hO.out.lt gb rfl
      have FIN : NewQ n w (.returned (.tuple #[.pointer (some ⟨ge, 0, none⟩), .int .i64 0])) wr := by
        have hE2 := hE.out
        have O72 := O7.out
        rw [hmv] at hE2 O72
        refine ⟨ge, gb, gv, cb, RV, _, _, rfl, eng_mk DK.out (lo := wx.heap.size) hE2 hO.out hL.out O72 (by rw [HNB.out]; exact RF7.out) (by rw [HNI.out]; exact RM7.out) HR.out GVL.out.2 HGE.out GRX.out.2, ⟨?_, ?_, ?_⟩, KW.out wr DR.out⟩
        · have := HZZ.out; have := W1GE.out; omega
        · have := HZZ.out; have := D7.out.size; omega
        · have := HZZ.out; have := GVL.out.1; omega
      go_wp2_with fail
      refine bodyPost_ret (v := .tuple #[.pointer (some ⟨ge, 0, none⟩), .int .i64 0]) (by simp [results, Tryz.results7, go_sem]) rfl ?_
      exact FIN
end NetDe
end Go.Proofs.YtgbbpliihglijaaGreat
