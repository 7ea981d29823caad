/- Texts laid together: NetI; NetMk; NetNu; NetOk; NetEv; NetBo; NetAi; NetVa; NetMb; NetL; NetJ; NetW; NetBz; NetZ. Their own heads stand before each. -/
import Derived.Test.YtgbbpliihglijaaGreatGBB
import Derived.Maps.AppendAt
import Derived.Deep.AppendLies
import Derived.Laws.AppendOwnNone
import Derived.OwnWalk
import Derived.WalkSpells
import Derived.Test.YtgbbpliihglijaaGreatGBE
import Derived.BigQuiet
/- Rows of numbers of the call's own, and append of a list of numbers. No conditions. -/
namespace Go.Proofs.YtgbbpliihglijaaGreat
open Go Go.RowKit
namespace NetI
open Kit LexM TermM TermI NetM NetN NetK NetA
def numV (l : List Int) : List Value := l.map fun x => Value.int .i64 x
theorem numv_len (l : List Int) : (numV l).length = l.length := by simp [numV]
theorem numv_app (a b : List Int) : numV (a ++ b) = numV a ++ numV b := by simp [numV]
theorem one_num (l : List Int) : ∀ u ∈ numV l, u.oneCell' = true := by
  intro u hu
  unfold numV at hu
  obtain ⟨y, _, rfl⟩ := List.mem_map.1 hu
  rfl
theorem one_int (x : Int) : ∀ u ∈ [Value.int .i64 x], u.oneCell' = true := one_num [x]
theorem Tryz.infoN : (Tryz.prog.info? 3).map (fun i => (i.zero, i.size, i.bytes)) = some (some (.int .i64 0), 1, 8) := by kernel_rfl
theorem nil_own (base : Nat) (w : World) (e : TypeId) (s : Nat) : w.ownsRow base e s (.slice none 0 0) 0 [] := ⟨by simp, Or.inl ⟨rfl, rfl⟩⟩
theorem form1 {base n : Nat} {w : World} {e : TypeId} {s : Nat} {v : Value} {cs : List Value} (h : w.ownsRow base e s v n cs) : ∃ a c, v = .slice a n c := by
  rcases h.2 with ⟨e, hz⟩ | ⟨g, cap, cur, e, _⟩
  · exact ⟨none, 0, by rw [e, hz]⟩
  · exact ⟨_, cap, e⟩
theorem own_below {base n s : Nat} {w w' : World} {e : TypeId} {v : Value} {cs : List Value} (h : w.ownsRow base e s v n cs) (g : Below w.heap.size w w') : w'.ownsRow base e s v n cs := by
  have hl := h.lt
  refine ⟨h.1, ?_⟩
  rcases h.2 with h | ⟨k, cap, cur, e1, e2, e3, e4⟩
  · exact Or.inl h
  · exact Or.inr ⟨k, cap, cur, e1, e2, (g.block k (hl k (by rw [e1]; rfl)).2).trans e3, e4⟩
/-- An own row of numbers is a slice of numbers. -/
theorem own_row {base : Nat} {w : World} {l : List Int} {v : Value} (h : w.ownsRow base 3 1 v l.length (numV l)) (hl : ∀ x ∈ l, I64 x) : RowE KN (fun b => base ≤ b ∧ b < w.heap.size) w l v := by
  have hlt := h.lt
  rcases h.2 with ⟨e, hz⟩ | ⟨g, cap, cur, e, e2, e3, e4, e5, _⟩
  · exact ⟨none, 0, by rw [e, hz], fun _ => rfl, by omega, Nat.zero_le _, hl, fun h => by omega⟩
  · subst e
    refine ⟨_, cap, rfl, fun h => (by cases h), e4, e5, hl, fun _ => ⟨g, 0, rfl, hlt g rfl, fun i x hx j u hu => ?_⟩⟩
    have hi := (List.getElem?_eq_some_iff.1 hx).1
    have hj := (List.getElem?_eq_some_iff.1 hu).1
    rw [KN.len] at hj
    obtain rfl : j = 0 := by have : j < 1 := hj; omega
    have e6 : (numV l)[i]? = some u := by
      unfold numV
      rw [List.getElem?_map, hx]
      exact hu
    rw [show 0 + i * KN.sz + 0 = i by show 0 + i * 1 + 0 = i; omega]
    exact (h.cellAt i (by omega)).trans e6
theorem row_news {ok : Nat → Prop} {w : World} {l : List Int} {b : Addr} {m c : Nat} (h : RowE KN ok w l (.slice (some b) m c)) : ∀ j u, (numV l)[j]? = some u → w.cell? (b.add j) = some u := by
  intro j u hu
  unfold numV at hu
  rw [List.getElem?_map] at hu
  obtain ⟨x, hx, rfl⟩ := Option.map_eq_some_iff.1 hu
  obtain ⟨g, o, e, _, _, hc⟩ := h.at hx
  injection e with e
  subst e
  have := hc 0 _ rfl
  rw [addr_add]
  have e2 : o + j * KN.sz + 0 = o + j := by show o + j * 1 + 0 = o + j; omega
  rw [e2] at this
  exact this
/-- append of a slice of numbers to a row of the call's own, wherever the slice lies. -/
theorem append_nums {P : Program} {w : World} {ops : Array Oper} {rest : List Oper} {o : Oper} {a : Act} {Q : Exit → Act → World → Prop} (hgd : o.guard = none) (s x : Operand) (t : TypeId)
    (ho : o.op = .call { callee := .builtin .append, args := #[s, x], argTypes := #[t, t] })
    (base : Nat) (e : TypeId) (i : TypeInfo) (z : Value) (bytes : Nat) (ht : P.underlying t = some (.slice e)) (hi : P.info? e = some i) (hz : i.zero = some z) (hsize : i.size = 1) (hby : i.bytes = bytes) (hzs : z.cells.size = 1)
    (v : Value) (n : Nat) (xs : List Value) (hs : a.eval s = v) (hown : w.ownsRow base e 1 v n xs)
    (ok : Nat → Prop) (p : Option Addr) (m c : Nat) (L : List Int) (hx : a.eval x = .slice p m c) (hrow : RowE KN ok w L (.slice p m c))
    (h63 : n + m ≤ maxLen) (hbytes : (n + m) * bytes ≤ 140737488355328) (hbase : base ≤ w.heap.size)
    (h : ∀ v' w', w'.ownsRow base e 1 v' (n + m) (xs ++ numV L) → w.grownBy w' v.ownBlock → (v'.ownBlock = v.ownBlock ∨ v'.ownBlock = some w.heap.size) → wpList P ops Q rest (a.put o.dst v') w') :
    wpList P ops Q (o :: rest) a w := by
  obtain ⟨hm, h1, h2⟩ := hrow.cap
  cases p with
  | none =>
    have hc : c = 0 := by
      obtain ⟨p', c', e', h0, _⟩ := hrow
      injection e' with e1 _ e3
      rw [e3]
      exact h0 e1.symm
    subst hc
    obtain rfl : m = 0 := by omega
    have hL : L = [] := List.eq_nil_of_length_eq_zero hm.symm
    refine wpList_append_own_none hgd s x t ho base e i 1 ht hi v n xs hs hown hx ?_
    refine h v w ?_ ⟨rfl, rfl, rfl, Nat.le_refl _, fun _ _ _ => rfl⟩ (Or.inl rfl)
    rw [hL]
    simpa [numV] using hown
  | some b =>
    exact wpList_append_own_at _ hgd s x t ho base e i z 1 bytes ht hi hz hsize hby hzs (by omega) v n xs hs hown b m c (numV L) hx (by rw [numv_len, hm]; omega) (row_news hrow) (one_num L) h63 hbytes hbase fun v' w' a1 a2 _ a4 => h v' w' a1 a2 a4
end NetI
end Go.Proofs.YtgbbpliihglijaaGreat
/- Marks of gates and the numbers that are marked, as plain data. No conditions. -/
namespace Go.Proofs.YtgbbpliihglijaaGreat
open Go
namespace NetMk
open LexM TermM NetM NetN
def mark1 (S : List Bool) (x : Int) : List Bool := S.set x.toNat true
def markL (S : List Bool) (l : List Int) : List Bool := l.foldl mark1 S
theorem mark_len (l : List Int) : ∀ S : List Bool, (markL S l).length = S.length := by
  induction l with
  | nil => intro S; rfl
  | cons x l ih =>
    intro S
    show (markL (mark1 S x) l).length = _
    rw [ih]
    unfold mark1
    simp
theorem mark_next (S : List Bool) (l : List Int) {k : Nat} {x : Int} (h : l[k]? = some x) : markL S (l.take (k + 1)) = mark1 (markL S (l.take k)) x := by
  unfold markL
  rw [List.take_add_one, h, List.foldl_append]
  rfl
theorem mark_app (S : List Bool) (a b : List Int) : markL S (a ++ b) = markL (markL S a) b := List.foldl_append
/-- What is marked. -/
theorem mark_get (l : List Int) : ∀ (S : List Bool) (j : Nat), (markL S l)[j]? = S[j]?.map fun b => b || l.any fun x => decide (x.toNat = j) := by
  induction l with
  | nil =>
    intro S j
    show S[j]? = _
    cases S[j]? <;> simp
  | cons x l ih =>
    intro S j
    show (markL (mark1 S x) l)[j]? = _
    rw [ih]
    unfold mark1
    rw [List.getElem?_set]
    by_cases e : x.toNat = j
    · subst e
      rw [if_pos rfl]
      by_cases h : x.toNat < S.length
      · rw [if_pos h, List.getElem?_eq_getElem h]
        simp
      · rw [if_neg h, List.getElem?_eq_none (by omega)]
        rfl
    · rw [if_neg e]
      cases S[j]? with
      | none => rfl
      | some b => simp [e]
/-- Lists with the same members mark the same. -/
theorem mark_same (S : List Bool) {a b : List Int} (h : ∀ x, x ∈ a ↔ x ∈ b) : markL S a = markL S b := by
  refine List.ext_getElem? fun j => ?_
  rw [mark_get, mark_get]
  have e : (a.any fun x => decide (x.toNat = j)) = (b.any fun x => decide (x.toNat = j)) := by
    rw [Bool.eq_iff_iff, List.any_eq_true, List.any_eq_true]
    constructor
    · rintro ⟨x, hx, hp⟩
      exact ⟨x, (h x).1 hx, hp⟩
    · rintro ⟨x, hx, hp⟩
      exact ⟨x, (h x).2 hx, hp⟩
  rw [e]
/-- The marked numbers among the first k, ascending. -/
def numsTo (S : List Bool) : Nat → List Int
  | 0 => []
  | k + 1 => if S[k]? = some true then numsTo S k ++ [(k : Int)] else numsTo S k
def numsOf (S : List Bool) : List Int := numsTo S S.length
theorem nums_yes {S : List Bool} {k : Nat} (h : S[k]? = some true) : numsTo S (k + 1) = numsTo S k ++ [(k : Int)] := by
  show (if _ then _ else _) = _
  rw [if_pos h]
theorem nums_no {S : List Bool} {k : Nat} (h : S[k]? ≠ some true) : numsTo S (k + 1) = numsTo S k := by
  show (if _ then _ else _) = _
  rw [if_neg h]
theorem nums_len (S : List Bool) : ∀ k, (numsTo S k).length ≤ k
  | 0 => Nat.le_refl _
  | k + 1 => by
    have := nums_len S k
    by_cases h : S[k]? = some true
    · rw [nums_yes h, List.length_append, List.length_singleton]
      omega
    · rw [nums_no h]
      omega
/-- The gates that outputs refer to. -/
def rootsN (n : Nt) : List Int := numsOf (markL (List.replicate n.gates.length false) (outs n))
end NetMk
end Go.Proofs.YtgbbpliihglijaaGreat
/- subset.Of: the marked numbers. Condition: at most a million marks. Made by gnNu.py. -/
namespace Go.Proofs.YtgbbpliihglijaaGreat
open Go Go.RowKit
namespace NetNu
open Kit TermM TermI NetM NetN NetK NetA NetI NetMk
/-- Marks. -/
def KB : Ke Bool where
  ty := 4
  sz := 1
  cells x := [.bool x]
  inn _ _ _ := True
  len _ := rfl
  keep h _ := h
  wide h _ := h
def NuE (S : List Bool) (w : World) (e : Ending) (w' : World) : Prop := ∃ v, e = .returned v ∧ RowE KN (fun b => w.heap.size ≤ b ∧ b < w'.heap.size) w' (numsOf S) v ∧ Below w.heap.size w w'
theorem NuE.mk {S : List Bool} {w w' : World} {v : Value} (h : RowE KN (fun b => w.heap.size ≤ b ∧ b < w'.heap.size) w' (numsOf S) v) (h2 : Below w.heap.size w w') : NuE S w (.returned v) w' := ⟨v, rfl, h, h2⟩
set_option maxRecDepth 100000 in
set_option maxHeartbeats 3200000 in
theorem numbers_any (S : List Bool) (ok : Nat → Prop) (w : World) (v : Value) (h : RowE KB ok w S v) (hk : ∀ b, ok b → b < w.heap.size) (hm : S.length ≤ 1000000) :
    Calls Tryz.prog 31 #[v] w (NuE S w) := by
  obtain ⟨i0, hi0, hi1, hi2, hi3⟩ := info_parts Tryz.infoN
  obtain ⟨p, c, rfl⟩ := h.form
  have CA : Hid (∀ (j : Nat) x, S[j]? = some x → ∀ w', Below w.heap.size w w' → ∃ g o, p = some ⟨g, o, none⟩ ∧ w'.cell? ⟨g, o + j, none⟩ = some (.bool x)) := Lib.hid (fun j x hx w' q => by
    obtain ⟨g, o, e1, e2, _, e4⟩ := h.at hx
    refine ⟨g, o, e1, (q.cell (p := ⟨g, _, none⟩) (hk g e2)).trans ?_⟩
    have := e4 0 _ rfl
    simpa [KB] using this)
  clear h hk
  have NS := Lib.hid (nil_own w.heap.size w 3 1)
  have NO : Hid (numsOf S = numsTo S S.length) := Lib.hid rfl
  generalize hn : S.length = n at *
  have HN := Lib.hid hn
  clear hn
  go_enter Tryz.func31, Tryz.ntmps31
  go_wp2_with fail
  go_loopw [3, 8] (fun u3 i wr => ∃ (k : Nat) (F : List Int), k ≤ n ∧ i = .int .i64 k ∧ Hid (F = numsTo S k) ∧ Hid (wr.ownsRow w.heap.size 3 1 u3 F.length (NetI.numV F)) ∧ Hid (∀ x ∈ F, I64 x) ∧ Hid (Below w.heap.size w wr)) (fun _ i _ => n - (intOf i).toNat)
  case atStart => exact ⟨0, [], Nat.zero_le _, rfl, Lib.hid rfl, NS, Lib.hid (fun x hx => by cases hx), Lib.hid (Below.refl _ _)⟩
  case round =>
    obtain ⟨k, F, hkn, rfl, hF, hO, hI, hD⟩ := hrel
    obtain ⟨va, vc, rfl⟩ := form1 hO.out
    have hFl : F.length ≤ k := by have := nums_len S k; rw [← hF.out] at this; exact this
    by_cases hlt : k < n
    · obtain ⟨x, hx⟩ : ∃ x, S[k]? = some x := ⟨S[k]'(by rw [HN.out]; exact hlt), by simp⟩
      obtain ⟨g, o, rfl, c1⟩ := CA.out k x hx wr hD.out
      have j0 : (0 : Int) ≤ (k : Int) := by omega
      have j1 : (k : Int) < n := by omega
      have hz3 := hD.out.size
      cases x
      · have F2 : Hid (F = numsTo S (k + 1)) := Lib.hid (by rw [nums_no (by rw [hx]; simp)]; exact hF.out)
        clear hx
        go_wp2_with fail
        go_roundw
        case rel => first | exact ⟨k + 1, F, by omega, by go_num, F2, hO, hI, hD⟩ | ((repeat (apply Exists.intro)); refine ⟨?_, rfl⟩; exact ⟨k + 1, F, by omega, by go_num, F2, hO, hI, hD⟩)
        case measure => simp [intOf]; omega
      · have F2 : Hid (F ++ [(k : Int)] = numsTo S (k + 1)) := Lib.hid (by rw [nums_yes hx, ← hF.out])
        have I2 : Hid (∀ y ∈ F ++ [(k : Int)], I64 y) := Lib.hid (fun y hy => by
          rcases List.mem_append.1 hy with hy | hy
          · exact hI.out y hy
          · rw [List.mem_singleton.1 hy]
            unfold I64
            omega)
        have AA1 : F.length + 1 ≤ maxLen := by unfold maxLen; omega
        have AA2 : (F.length + 1) * 8 ≤ 140737488355328 := by omega
        have AA3 : w.heap.size ≤ (wr.alloc (.cells #[.int .i64 (k : Int)] 3)).heap.size := by simp <;> omega
        clear hx
        go_wp2_with (at_builtin; go_must (refine wpList_append_lies _ rfl _ _ 25 rfl w.heap.size 3 i0 (.int .i64 0) 1 8 Tryz.underlying25 hi0 hi1 hi2 hi3 rfl (by decide) (.slice va F.length vc) F.length (NetI.numV F) rfl (hO.out.alloc _) ⟨wr.heap.size, 0, none⟩ 1 1 [.int .i64 k] rfl rfl (World.news_of_block (heap_alloc_new wr _)) (one_int k) (by decide) AA1 AA2 AA3 (wr.heap.size + 1) (by simp) ?_; intro g6 c6 w6 hown6 hgrow6 hat6 hlt6; have O6 : Hid (w6.ownsRow w.heap.size 3 1 (.slice (some ⟨g6, 0, none⟩) (F.length + 1) c6) (F ++ [(k : Int)]).length (NetI.numV (F ++ [(k : Int)]))) := Lib.hid (by rw [List.length_append, NetI.numv_app]; exact hown6); have D6 := Lib.hid ((hD.out.alloc hz3 (.cells #[.int .i64 k] 3)).grown hgrow6 (by simp <;> omega) (fun j hj => (hO.out.lt j hj).1)); clear hown6 hgrow6 hat6 hlt6))
        go_roundw
        case rel => first | exact ⟨k + 1, F ++ [(k : Int)], by omega, by go_num, F2, O6, I2, D6⟩ | ((repeat (apply Exists.intro)); refine ⟨?_, rfl⟩; exact ⟨k + 1, F ++ [(k : Int)], by omega, by go_num, F2, O6, I2, D6⟩)
        case measure => simp [intOf]; omega
    · obtain rfl : k = n := by omega
      have R7 := Lib.hid (own_row hO.out hI.out)
      have FE : Hid (F = numsOf S) := Lib.hid (by rw [hF.out, NO.out])
      go_wp2_with fail
      go_ret
      exact NuE.mk (by rw [← FE.out]; exact R7.out) hD.out
end NetNu
end Go.Proofs.YtgbbpliihglijaaGreat
/- What a valid network's lists hold. No conditions. -/
namespace Go.Proofs.YtgbbpliihglijaaGreat
open Go
namespace NetOk
open LexM TermM NetM NetN
/-- A valid gate. -/
structure GOk (n : Nt) (i : Nat) (g : Gt) : Prop where
  k0 : 0 ≤ g.1
  k7 : g.1 < 7
  x0 : 0 ≤ g.2.1
  xm : g.2.1 < mostIx n g.1
  en : readsB g.1 g.2.2.length = true
  rd : ∀ x ∈ g.2.2, 0 ≤ x ∧ x < (i : Int)
theorem inb_iff {x m : Int} : inB x m = true ↔ 0 ≤ x ∧ x < m := by
  unfold inB
  rw [Bool.and_eq_true, decide_eq_true_eq, decide_eq_true_eq]
theorem nums_mem {l : List Int} {m : Int} (h : numsB l m = true) : ∀ x ∈ l, 0 ≤ x ∧ x < m := by
  intro x hx
  obtain ⟨j, hj⟩ := List.mem_iff_getElem?.1 hx
  have h1 := alln_true.1 h j (List.getElem?_eq_some_iff.1 hj).1
  unfold numAt at h1
  rw [Bool.and_eq_true, at_get hj, inb_iff] at h1
  exact h1.1
theorem gok {n : Nt} {i : Nat} {g : Gt} (h : gateE n i g = 0) : GOk n i g := by
  unfold gateE at h
  by_cases h1 : inB g.1 7 = true
  · rw [if_neg (by rw [h1]; decide)] at h
    by_cases h2 : inB g.2.1 (mostIx n g.1) = true
    · rw [if_neg (by rw [h2]; decide)] at h
      by_cases h3 : readsB g.1 g.2.2.length = true
      · rw [if_neg (by rw [h3]; decide)] at h
        by_cases h4 : numsB g.2.2 i = true
        · have a1 := inb_iff.1 h1
          have a2 := inb_iff.1 h2
          exact ⟨a1.1, a1.2, a2.1, a2.2, h3, nums_mem h4⟩
        · rw [if_pos (by simpa using h4)] at h
          exact absurd h (by decide)
      · rw [if_pos (by simpa using h3)] at h
        exact absurd h (by decide)
    · rw [if_pos (by simpa using h2)] at h
      exact absurd h (by decide)
  · rw [if_pos (by simpa using h1)] at h
    exact absurd h (by decide)
theorem gates_all {n : Nt} : ∀ {l : List Gt} {i : Nat}, gatesE n i l = 0 → ∀ j g, l[j]? = some g → gateE n (i + j) g = 0
  | [], _, _, j, g, hg => by simp at hg
  | a :: l, i, h, j, g, hg => by
    unfold gatesE at h
    by_cases h0 : gateE n i a = 0
    · rw [if_pos h0] at h
      cases j with
      | zero =>
        simp at hg
        subst hg
        exact h0
      | succ j =>
        have := gates_all h j g (by simpa using hg)
        rw [show i + (j + 1) = i + 1 + j by omega]
        exact this
    · rw [if_neg h0] at h
      exact absurd h h0
/-- A valid network. -/
structure NOk (n : Nt) : Prop where
  few : n.gates.length ≤ 16384
  gate : ∀ k g, n.gates[k]? = some g → GOk n k g
  outs : ∀ x ∈ outs n, 0 ≤ x ∧ x < (n.gates.length : Int)
  next : n.next.length = n.bases.length
  legal : n.legal.length = n.inputs.length
  init : ∀ x ∈ n.initial, 0 ≤ x ∧ x < (n.bases.length : Int)
  one : 1 ≤ n.roles.length
  four : n.roles.length ≤ 4
theorem nok {f : Tm → Bool} {n : Nt} (h : chkN f n = 0) : NOk n := by
  unfold chkN at h
  by_cases h1 : 16384 < n.gates.length
  · rw [if_pos h1] at h
    exact absurd h (by decide)
  rw [if_neg h1] at h
  by_cases h2 : gatesE n 0 n.gates = 0
  · rw [if_neg (by simpa using h2)] at h
    by_cases h3 : (rolesB n.roles && (listsB f n && outsB f n)) = true
    · rw [Bool.and_eq_true, Bool.and_eq_true] at h3
      obtain ⟨r1, r2, r3⟩ := h3
      unfold rolesB at r1
      unfold listsB at r2
      unfold outsB at r3
      simp only [Bool.and_eq_true, decide_eq_true_eq] at r1 r2 r3
      obtain ⟨a1, a2, _⟩ := r1
      obtain ⟨_, _, b3, b4, b5⟩ := r2
      obtain ⟨_, _, c3⟩ := r3
      exact ⟨by omega, fun k g hg => by have := gates_all h2 k g hg; rw [Nat.zero_add] at this; exact gok this, fun x hx => inb_iff.1 (List.all_eq_true.1 c3 x hx), b4, b5, nums_mem b3, a1, a2⟩
    · rw [if_neg h3] at h
      exact absurd h (by decide)
  · rw [if_pos h2] at h
    exact absurd h h2
theorem NOk.last {n : Nt} (h : NOk n) : 0 ≤ n.last ∧ n.last < (n.gates.length : Int) := h.outs _ (by unfold NetN.outs; simp)
theorem NOk.nexts {n : Nt} (h : NOk n) : ∀ x ∈ n.next, 0 ≤ x ∧ x < (n.gates.length : Int) := fun x hx => h.outs _ (by unfold NetN.outs; simp [hx])
theorem NOk.legals {n : Nt} (h : NOk n) : ∀ x ∈ n.legal, 0 ≤ x ∧ x < (n.gates.length : Int) := fun x hx => h.outs _ (by unfold NetN.outs; simp [hx])
theorem NOk.goals {n : Nt} (h : NOk n) : ∀ x ∈ n.goals, 0 ≤ x.2.2.2 ∧ x.2.2.2 < (n.gates.length : Int) := fun x hx => h.outs _ (by
  unfold NetN.outs
  simp only [List.mem_append, List.mem_map]
  exact Or.inl (Or.inl (Or.inr ⟨x, hx, rfl⟩)))
theorem NOk.sees {n : Nt} (h : NOk n) : ∀ x ∈ n.sees, 0 ≤ x.2.2.2 ∧ x.2.2.2 < (n.gates.length : Int) := fun x hx => h.outs _ (by
  unfold NetN.outs
  simp only [List.mem_append, List.mem_map]
  exact Or.inl (Or.inr ⟨x, hx, rfl⟩))
end NetOk
end Go.Proofs.YtgbbpliihglijaaGreat
/- Evaluation of networks as plain data. No conditions. -/
namespace Go.Proofs.YtgbbpliihglijaaGreat
open Go
namespace NetEv
open LexM TermM NetM NetN NetMk NetOk
/-- The value of a gate, by the values of the gates before it. -/
def vAt (V : List Bool) (x : Int) : Bool := V.getD x.toNat false
theorem v_get {V : List Bool} {x : Int} {b : Bool} (h : V[x.toNat]? = some b) : vAt V x = b := by
  unfold vAt
  rw [List.getD_eq_getElem?_getD, h]
  rfl
theorem v_app {V : List Bool} {x : Int} (h0 : 0 ≤ x) (h : x < V.length) (T : List Bool) : vAt (V ++ T) x = vAt V x := by
  unfold vAt
  rw [List.getD_eq_getElem?_getD, List.getD_eq_getElem?_getD, List.getElem?_append_left (by omega)]
def gvN (st ip : List Int) (V : List Bool) (g : Gt) : Bool :=
  if g.1 = 2 then decide (g.2.1 ∈ st) else if g.1 = 3 then decide (g.2.1 ∈ ip) else if g.1 = 4 then g.2.2.all (vAt V) else if g.1 = 5 then g.2.2.any (vAt V) else if g.1 = 6 then !(vAt V (at0 g.2.2 0)) else decide (g.1 = 1)
def valsFrom (st ip : List Int) : List Bool → List Gt → List Bool
  | V, [] => V
  | V, g :: l => valsFrom st ip (V ++ [gvN st ip V g]) l
def valsTo (st ip : List Int) (l : List Gt) (k : Nat) : List Bool := valsFrom st ip [] (l.take k)
def valsN (st ip : List Int) (n : Nt) : List Bool := valsFrom st ip [] n.gates
theorem from_app (st ip : List Int) : ∀ (l r : List Gt) (V : List Bool), valsFrom st ip V (l ++ r) = valsFrom st ip (valsFrom st ip V l) r
  | [], _, _ => rfl
  | _ :: l, r, _ => from_app st ip l r _
theorem from_len (st ip : List Int) : ∀ (l : List Gt) (V : List Bool), (valsFrom st ip V l).length = V.length + l.length
  | [], _ => rfl
  | g :: l, V => by
    show (valsFrom st ip (V ++ [gvN st ip V g]) l).length = _
    rw [from_len st ip l]
    simp
    omega
theorem vals_next (st ip : List Int) (l : List Gt) {k : Nat} {g : Gt} (h : l[k]? = some g) : valsTo st ip l (k + 1) = valsTo st ip l k ++ [gvN st ip (valsTo st ip l k) g] := by
  unfold valsTo
  rw [List.take_add_one, h, from_app]
  rfl
theorem vals_len (st ip : List Int) (l : List Gt) {k : Nat} (h : k ≤ l.length) : (valsTo st ip l k).length = k := by
  unfold valsTo
  rw [from_len]
  simp
  omega
theorem vals_all (st ip : List Int) (n : Nt) : valsTo st ip n.gates n.gates.length = valsN st ip n := by
  unfold valsTo valsN
  rw [List.take_length]
theorem valsn_len (st ip : List Int) (n : Nt) : (valsN st ip n).length = n.gates.length := by rw [← vals_all, vals_len _ _ _ (Nat.le_refl _)]
/-- The values of the first gates are a beginning of all. -/
theorem vals_pre (st ip : List Int) (l : List Gt) : ∀ (d k : Nat), k + d ≤ l.length → ∃ T, valsTo st ip l (k + d) = valsTo st ip l k ++ T
  | 0, k, _ => ⟨[], by simp⟩
  | d + 1, k, h => by
    obtain ⟨T, hT⟩ := vals_pre st ip l d k (by omega)
    obtain ⟨g, hg⟩ : ∃ g, l[k + d]? = some g := ⟨l[k + d]'(by omega), by simp⟩
    refine ⟨T ++ [gvN st ip (valsTo st ip l (k + d)) g], ?_⟩
    rw [show k + (d + 1) = k + d + 1 by omega, vals_next st ip l hg, ← List.append_assoc, ← hT]
/-- A gate's value depends on what it reads alone. -/
theorem gv_congr {st ip : List Int} {V V' : List Bool} {g : Gt} (h : ∀ x ∈ g.2.2, vAt V x = vAt V' x) (h6 : g.1 = 6 → g.2.2.length = 1) : gvN st ip V g = gvN st ip V' g := by
  unfold gvN
  have e4 : g.2.2.all (vAt V) = g.2.2.all (vAt V') := by
    rw [Bool.eq_iff_iff, List.all_eq_true, List.all_eq_true]
    exact ⟨fun k x hx => (h x hx) ▸ k x hx, fun k x hx => (h x hx).symm ▸ k x hx⟩
  have e5 : g.2.2.any (vAt V) = g.2.2.any (vAt V') := by
    rw [Bool.eq_iff_iff, List.any_eq_true, List.any_eq_true]
    exact ⟨fun ⟨x, hx, k⟩ => ⟨x, hx, (h x hx) ▸ k⟩, fun ⟨x, hx, k⟩ => ⟨x, hx, (h x hx).symm ▸ k⟩⟩
  rw [e4, e5]
  by_cases e : g.1 = 6
  · have h1 := h6 e
    have : vAt V (at0 g.2.2 0) = vAt V' (at0 g.2.2 0) := h _ (by
      obtain ⟨x, hx⟩ : ∃ x, g.2.2[0]? = some x := ⟨g.2.2[0]'(by omega), by simp⟩
      rw [at_get hx]
      exact List.mem_of_getElem? hx)
    rw [this]
  · rw [if_neg e, if_neg e]
theorem GOk.one {n : Nt} {k : Nat} {g : Gt} (h : GOk n k g) (e : g.1 = 6) : g.2.2.length = 1 := by
  have := h.en
  unfold readsB at this
  rw [if_pos e, decide_eq_true_eq] at this
  exact this
/-- The value of a gate of a valid network, among all values. -/
theorem vals_at {n : Nt} (st ip : List Int) (hn : NOk n) {k : Nat} {g : Gt} (hg : n.gates[k]? = some g) : (valsN st ip n)[k]? = some (gvN st ip (valsN st ip n) g) := by
  have hk := (List.getElem?_eq_some_iff.1 hg).1
  obtain ⟨T, hT⟩ := vals_pre st ip n.gates (n.gates.length - (k + 1)) (k + 1) (by omega)
  rw [show k + 1 + (n.gates.length - (k + 1)) = n.gates.length by omega, vals_all] at hT
  have hl := vals_len st ip n.gates (k := k) (by omega)
  have e1 : valsN st ip n = valsTo st ip n.gates k ++ (gvN st ip (valsTo st ip n.gates k) g :: T) := by rw [hT, vals_next st ip n.gates hg]; simp
  have e2 : gvN st ip (valsN st ip n) g = gvN st ip (valsTo st ip n.gates k) g := by
    have ok := hn.gate k g hg
    refine gv_congr (fun x hx => ?_) fun e => GOk.one ok e
    have := ok.rd x hx
    rw [e1]
    exact v_app this.1 (by omega) _
  rw [e2]
  rw [e1, List.getElem?_append_right (by omega), hl, Nat.sub_self]
  rfl
/-- Membership as marks. -/
def memB (l : List Int) (m : Nat) : List Bool := markL (List.replicate m false) l
theorem memb_len (l : List Int) (m : Nat) : (memB l m).length = m := by
  unfold memB
  rw [mark_len]
  simp
theorem memb_get {l : List Int} {m j : Nat} (hj : j < m) (h : ∀ x ∈ l, 0 ≤ x) : (memB l m)[j]? = some (decide ((j : Int) ∈ l)) := by
  unfold memB
  rw [mark_get, List.getElem?_replicate, if_pos hj]
  simp only [Option.map_some, Bool.false_or, Option.some.injEq]
  rw [Bool.eq_iff_iff, List.any_eq_true, decide_eq_true_eq]
  constructor
  · rintro ⟨x, hx, hp⟩
    rw [decide_eq_true_eq] at hp
    have := h x hx
    rw [show (j : Int) = x by omega]
    exact hx
  · intro hx
    exact ⟨j, hx, by simp⟩
/-- The error of an evaluation. -/
def evE (g : Tm → Bool) (st ip : List Int) (n : Nt) : Int :=
  if chkN g n ≠ 0 then 13 else if numsB st n.bases.length = false then 14 else if numsB ip n.inputs.length = false then 15 else 0
def evV (g : Tm → Bool) (st ip : List Int) (n : Nt) : List Bool := if evE g st ip n = 0 then valsN st ip n else []
structure EOk (st ip : List Int) (n : Nt) : Prop where
  net : NOk n
  st : numsB st n.bases.length = true
  ip : numsB ip n.inputs.length = true
theorem eok {g : Tm → Bool} {st ip : List Int} {n : Nt} (h : evE g st ip n = 0) : EOk st ip n := by
  unfold evE at h
  by_cases h1 : chkN g n = 0
  · rw [if_neg (by simpa using h1)] at h
    by_cases h2 : numsB st n.bases.length = true
    · rw [if_neg (by rw [h2]; decide)] at h
      by_cases h3 : numsB ip n.inputs.length = true
      · exact ⟨nok h1, h2, h3⟩
      · rw [if_pos (by simpa using h3)] at h
        exact absurd h (by decide)
    · rw [if_pos (by simpa using h2)] at h
      exact absurd h (by decide)
  · rw [if_pos h1] at h
    exact absurd h (by decide)
theorem ev_net {g : Tm → Bool} {st ip : List Int} {n : Nt} (h : chkN g n ≠ 0) : evE g st ip n = 13 := by unfold evE; rw [if_pos h]
theorem ev_st {g : Tm → Bool} {st ip : List Int} {n : Nt} (h : chkN g n = 0) (h2 : numsB st n.bases.length = false) : evE g st ip n = 14 := by unfold evE; rw [if_neg (by simpa using h), if_pos h2]
theorem ev_ip {g : Tm → Bool} {st ip : List Int} {n : Nt} (h : chkN g n = 0) (h2 : numsB st n.bases.length = true) (h3 : numsB ip n.inputs.length = false) : evE g st ip n = 15 := by unfold evE; rw [if_neg (by simpa using h), if_neg (by rw [h2]; decide), if_pos h3]
theorem ev_ok {g : Tm → Bool} {st ip : List Int} {n : Nt} (h : chkN g n = 0) (h2 : numsB st n.bases.length = true) (h3 : numsB ip n.inputs.length = true) : evE g st ip n = 0 := by unfold evE; rw [if_neg (by simpa using h), if_neg (by rw [h2]; decide), if_neg (by rw [h3]; decide)]
theorem evv_ok {g : Tm → Bool} {st ip : List Int} {n : Nt} (h : evE g st ip n = 0) : evV g st ip n = valsN st ip n := by unfold evV; rw [if_pos h]
theorem evv_no {g : Tm → Bool} {st ip : List Int} {n : Nt} (h : evE g st ip n ≠ 0) : evV g st ip n = [] := by unfold evV; rw [if_neg h]
/-- The positions of those that are true. -/
def posN (V : List Bool) (l : List Int) : List Int := numsOf (l.map (vAt V))
def posE (g : Tm → Bool) (st ip : List Int) (n : Nt) (l : List Int) : List Int := if evE g st ip n = 0 then posN (valsN st ip n) l else []
theorem pose_ok {g : Tm → Bool} {st ip : List Int} {n : Nt} {l : List Int} (h : evE g st ip n = 0) : posE g st ip n l = posN (valsN st ip n) l := by unfold posE; rw [if_pos h]
theorem pose_no {g : Tm → Bool} {st ip : List Int} {n : Nt} {l : List Int} (h : evE g st ip n ≠ 0) : posE g st ip n l = [] := by unfold posE; rw [if_neg h]
theorem pos_yes {V : List Bool} {l : List Int} {k : Nat} {x : Int} (h : l[k]? = some x) (hv : vAt V x = true) : numsTo (l.map (vAt V)) (k + 1) = numsTo (l.map (vAt V)) k ++ [(k : Int)] := nums_yes (by rw [List.getElem?_map, h, Option.map_some, hv])
theorem pos_no {V : List Bool} {l : List Int} {k : Nat} {x : Int} (h : l[k]? = some x) (hv : vAt V x = false) : numsTo (l.map (vAt V)) (k + 1) = numsTo (l.map (vAt V)) k := nums_no (by rw [List.getElem?_map, h, Option.map_some, hv]; decide)
theorem pos_all (V : List Bool) (l : List Int) : numsTo (l.map (vAt V)) l.length = posN V l := by unfold posN numsOf; rw [List.length_map]
end NetEv
end Go.Proofs.YtgbbpliihglijaaGreat
/- Rows of bools; make of bools. No conditions but sizes. -/
namespace Go.Proofs.YtgbbpliihglijaaGreat
open Go Go.RowKit
namespace NetBo
open Kit LexM TermM TermI NetM NetN NetK NetA NetI NetMk NetNu NetEv
def boolV (l : List Bool) : List Value := l.map Value.bool
theorem boolv_len (l : List Bool) : (boolV l).length = l.length := by simp [boolV]
theorem boolv_app (a b : List Bool) : boolV (a ++ b) = boolV a ++ boolV b := by simp [boolV]
theorem boolv_set (l : List Bool) (k : Nat) (b : Bool) : (boolV l).set k (.bool b) = boolV (l.set k b) := by simp [boolV, List.map_set]
theorem boolv_get {l : List Bool} {k : Nat} {b : Bool} (h : l[k]? = some b) : (boolV l)[k]? = some (.bool b) := by
  unfold boolV
  rw [List.getElem?_map, h]
  rfl
theorem one_bool (b : Bool) : ∀ u ∈ [Value.bool b], u.oneCell' = true := by
  intro u hu
  rw [List.mem_singleton.1 hu]
  rfl
theorem Tryz.infoB : (Tryz.prog.info? 4).map (fun i => (i.zero, i.size, i.bytes)) = some (some (.bool false), 1, 1) := by kernel_rfl
theorem make_b (w : World) (n : Nat) (hn : n ≤ 1000000) : ∃ w', (Instr.makeSlice 47 (.int .i64 n) (.int .i64 n)).run Tryz.prog w = .ok (.slice (some ⟨w.heap.size, 0, none⟩) n n) w' ∧ w'.ownsRow w.heap.size 4 1 (.slice (some ⟨w.heap.size, 0, none⟩) n n) n (boolV (List.replicate n false)) ∧ w.grownBy w' none := by
  obtain ⟨i, hi, hz, hs, hb⟩ := info_parts Tryz.infoB
  obtain ⟨w', h1, h2, h3⟩ := run_make_full (P := Tryz.prog) w w.heap.size 47 4 i (.bool false) 1 Tryz.underlying47 hi hz hs .i64 .i64 n (by rw [hb]; omega) (by unfold maxLen; omega) (Nat.le_refl _)
  refine ⟨w', h1, ?_, h3⟩
  have e : (madeCells (Value.bool false).cells (n * 1)).toList = boolV (List.replicate n false) := by
    rw [Nat.mul_one, show (Value.bool false).cells = #[.bool false] from rfl, toList_madeCells_one]
    simp [boolV]
  rw [e] at h2
  exact h2
/-- An own row of bools is a slice of bools. -/
theorem own_rowb {base : Nat} {w : World} {l : List Bool} {v : Value} (h : w.ownsRow base 4 1 v l.length (boolV l)) : RowE KB (fun b => base ≤ b ∧ b < w.heap.size) w l v := by
  have hlt := h.lt
  rcases h.2 with ⟨e, hz⟩ | ⟨g, cap, cur, e, e2, e3, e4, e5, _⟩
  · exact ⟨none, 0, by rw [e, hz], fun _ => rfl, by omega, Nat.zero_le _, fun _ _ => trivial, fun h => by omega⟩
  · subst e
    refine ⟨_, cap, rfl, fun h => (by cases h), e4, e5, fun _ _ => trivial, fun _ => ⟨g, 0, rfl, hlt g rfl, fun i x hx j u hu => ?_⟩⟩
    have hi := (List.getElem?_eq_some_iff.1 hx).1
    have hj := (List.getElem?_eq_some_iff.1 hu).1
    rw [KB.len] at hj
    obtain rfl : j = 0 := by have : j < 1 := hj; omega
    have e6 : (boolV l)[i]? = some u := by
      unfold boolV
      rw [List.getElem?_map, hx]
      exact hu
    rw [show 0 + i * KB.sz + 0 = i by show 0 + i * 1 + 0 = i; omega]
    exact (h.cellAt i (by omega)).trans e6
/-- The bools of a row, in every later world. -/
theorem readb {ok : Nat → Prop} {w : World} {L : List Bool} {p : Option Addr} {n c : Nat} (h : RowE KB ok w L (.slice p n c)) (hk : ∀ b, ok b → b < w.heap.size) :
    ∀ (j : Nat) x, L[j]? = some x → ∀ w', Below w.heap.size w w' → ∃ g o, p = some ⟨g, o, none⟩ ∧ w'.cell? ⟨g, o + j, none⟩ = some (.bool x) := by
  intro j x hx w' q
  obtain ⟨g, o, e1, e2, _, e4⟩ := h.at hx
  refine ⟨g, o, e1, (q.cell (p := ⟨g, _, none⟩) (hk g e2)).trans ?_⟩
  have := e4 0 _ rfl
  simpa [KB] using this
end NetBo
end Go.Proofs.YtgbbpliihglijaaGreat
/- evaluate.anyIs: whether one of some gates has a value. Conditions: the numbers are those of values. Made by gnMb.py. -/
namespace Go.Proofs.YtgbbpliihglijaaGreat
open Go Go.RowKit
namespace NetAi
open Kit LexM TermM TermI NetM NetN NetK NetA NetC NetI NetMk NetNu NetEv NetBo
set_option maxRecDepth 100000 in
set_option maxHeartbeats 3200000 in
theorem anytrue_any (l : List Int) (V : List Bool) (ok okV : Nat → Prop) (w : World) (v v' : Value) (hl : RowE KN ok w l v) (hV : RowE KB okV w V v') (hk : ∀ b, ok b → b < w.heap.size) (hkV : ∀ b, okV b → b < w.heap.size) (hr : ∀ x ∈ l, 0 ≤ x ∧ x < (V.length : Int)) :
    Calls Tryz.prog 48 #[.bool true, v, v'] w fun e w' => e = .returned (.bool (l.any fun x => vAt V x == true)) ∧ Below w.heap.size w w' := by
  obtain ⟨p, c, rfl⟩ := hl.form
  obtain ⟨p', c', rfl⟩ := hV.form
  have hcap : l.length ≤ maxLen := by obtain ⟨_, h1, h2⟩ := hl.cap; omega
  have hcap' : V.length ≤ maxLen := by obtain ⟨_, h1, h2⟩ := hV.cap; omega
  unfold maxLen at hcap hcap'
  have IR := Lib.hid (readn hl hk)
  have IV := Lib.hid (readb hV hkV)
  have HR : Hid (∀ x ∈ l, 0 ≤ x ∧ x < (V.length : Int)) := Lib.hid hr
  have YES : Hid (∀ k x, l[k]? = some x → vAt V x = true → (l.any fun x => vAt V x == true) = true) := Lib.hid (fun k x hx e => List.any_eq_true.2 ⟨x, List.mem_of_getElem? hx, by rw [e]; rfl⟩)
  have NOT : Hid ((∀ j x, j < l.length → l[j]? = some x → vAt V x = false) → (l.any fun x => vAt V x == true) = false) := Lib.hid (fun h => by
    rw [Bool.eq_false_iff]
    intro e
    obtain ⟨x, hx, hp⟩ := List.any_eq_true.1 e
    obtain ⟨j, hj⟩ := List.mem_iff_getElem?.1 hx
    rw [h j x (List.getElem?_eq_some_iff.1 hj).1 hj] at hp
    cases hp)
  clear hl hV hr hk hkV
  generalize (l.any fun x => vAt V x == true) = R at *
  generalize hn : l.length = n at *
  have HN := Lib.hid hn
  clear hn
  generalize hm : V.length = m at *
  have HM := Lib.hid hm
  clear hm
  go_enter Tryz.func48, Tryz.ntmps48
  go_wp2_with fail
  go_loopw [11] (fun i wr => ∃ k : Nat, k ≤ n ∧ i = .int .i64 k ∧ Hid (∀ j x, j < k → l[j]? = some x → vAt V x = false) ∧ Hid (Below w.heap.size w wr)) (fun i _ => n - (intOf i).toNat)
  case atStart => exact ⟨0, Nat.zero_le _, rfl, Lib.hid (fun j x hj => by omega), Lib.hid (Below.refl _ _)⟩
  case round =>
    obtain ⟨k, hk, rfl, hT, hD⟩ := hrel
    by_cases hlt : k < n
    · obtain ⟨x, hx⟩ : ∃ x, l[k]? = some x := ⟨l[k]'(by rw [HN.out]; exact hlt), by simp⟩
      obtain ⟨g, o, rfl, c1⟩ := IR.out k x hx wr hD.out
      have hxr := HR.out x (List.mem_of_getElem? hx)
      obtain ⟨j, rfl⟩ : ∃ j : Nat, x = (j : Int) := ⟨x.toNat, by omega⟩
      have j0 : (0 : Int) ≤ (k : Int) := by omega
      have j1 : (k : Int) < n := by omega
      have j2 : (0 : Int) ≤ (j : Int) := by omega
      have j3 : (j : Int) < m := hxr.2
      obtain ⟨b, hb⟩ : ∃ b, V[j]? = some b := ⟨_, List.getElem?_eq_getElem (by have := HM.out; omega)⟩
      obtain ⟨g', o', rfl, c2⟩ := IV.out j b hb wr hD.out
      have HX := Lib.hid hx
      have VA : Hid (vAt V (j : Int) = b) := Lib.hid (v_get (by rw [Int.toNat_natCast]; exact hb))
      clear hx hb hxr
      cases b
      · have T2 : Hid (∀ j x, j < k + 1 → l[j]? = some x → vAt V x = false) := Lib.hid (fun i x hi hx => by
          by_cases e : i = k
          · subst e
            rw [HX.out] at hx
            injection hx with hx
            rw [← hx, VA.out]
          · exact hT.out i x (by omega) hx)
        clear HX VA
        go_wp2_with fail
        go_roundw
        case rel => exact ⟨k + 1, by omega, by go_num, T2, hD⟩
        case measure => simp [intOf]; omega
      · have e0 := Lib.hid (YES.out k _ HX.out VA.out)
        clear YES NOT HX VA
        go_wp2_with fail
        go_ret
        exact ⟨by rw [e0.out]; rfl, hD.out⟩
    · obtain rfl : k = n := by omega
      have e0 := Lib.hid (NOT.out hT.out)
      go_wp2_with fail
      go_ret
      exact ⟨by rw [e0.out]; rfl, hD.out⟩
set_option maxRecDepth 100000 in
set_option maxHeartbeats 3200000 in
theorem anyfalse_any (l : List Int) (V : List Bool) (ok okV : Nat → Prop) (w : World) (v v' : Value) (hl : RowE KN ok w l v) (hV : RowE KB okV w V v') (hk : ∀ b, ok b → b < w.heap.size) (hkV : ∀ b, okV b → b < w.heap.size) (hr : ∀ x ∈ l, 0 ≤ x ∧ x < (V.length : Int)) :
    Calls Tryz.prog 48 #[.bool false, v, v'] w fun e w' => e = .returned (.bool (l.any fun x => vAt V x == false)) ∧ Below w.heap.size w w' := by
  obtain ⟨p, c, rfl⟩ := hl.form
  obtain ⟨p', c', rfl⟩ := hV.form
  have hcap : l.length ≤ maxLen := by obtain ⟨_, h1, h2⟩ := hl.cap; omega
  have hcap' : V.length ≤ maxLen := by obtain ⟨_, h1, h2⟩ := hV.cap; omega
  unfold maxLen at hcap hcap'
  have IR := Lib.hid (readn hl hk)
  have IV := Lib.hid (readb hV hkV)
  have HR : Hid (∀ x ∈ l, 0 ≤ x ∧ x < (V.length : Int)) := Lib.hid hr
  have YES : Hid (∀ k x, l[k]? = some x → vAt V x = false → (l.any fun x => vAt V x == false) = true) := Lib.hid (fun k x hx e => List.any_eq_true.2 ⟨x, List.mem_of_getElem? hx, by rw [e]; rfl⟩)
  have NOT : Hid ((∀ j x, j < l.length → l[j]? = some x → vAt V x = true) → (l.any fun x => vAt V x == false) = false) := Lib.hid (fun h => by
    rw [Bool.eq_false_iff]
    intro e
    obtain ⟨x, hx, hp⟩ := List.any_eq_true.1 e
    obtain ⟨j, hj⟩ := List.mem_iff_getElem?.1 hx
    rw [h j x (List.getElem?_eq_some_iff.1 hj).1 hj] at hp
    cases hp)
  clear hl hV hr hk hkV
  generalize (l.any fun x => vAt V x == false) = R at *
  generalize hn : l.length = n at *
  have HN := Lib.hid hn
  clear hn
  generalize hm : V.length = m at *
  have HM := Lib.hid hm
  clear hm
  go_enter Tryz.func48, Tryz.ntmps48
  go_wp2_with fail
  go_loopw [11] (fun i wr => ∃ k : Nat, k ≤ n ∧ i = .int .i64 k ∧ Hid (∀ j x, j < k → l[j]? = some x → vAt V x = true) ∧ Hid (Below w.heap.size w wr)) (fun i _ => n - (intOf i).toNat)
  case atStart => exact ⟨0, Nat.zero_le _, rfl, Lib.hid (fun j x hj => by omega), Lib.hid (Below.refl _ _)⟩
  case round =>
    obtain ⟨k, hk, rfl, hT, hD⟩ := hrel
    by_cases hlt : k < n
    · obtain ⟨x, hx⟩ : ∃ x, l[k]? = some x := ⟨l[k]'(by rw [HN.out]; exact hlt), by simp⟩
      obtain ⟨g, o, rfl, c1⟩ := IR.out k x hx wr hD.out
      have hxr := HR.out x (List.mem_of_getElem? hx)
      obtain ⟨j, rfl⟩ : ∃ j : Nat, x = (j : Int) := ⟨x.toNat, by omega⟩
      have j0 : (0 : Int) ≤ (k : Int) := by omega
      have j1 : (k : Int) < n := by omega
      have j2 : (0 : Int) ≤ (j : Int) := by omega
      have j3 : (j : Int) < m := hxr.2
      obtain ⟨b, hb⟩ : ∃ b, V[j]? = some b := ⟨_, List.getElem?_eq_getElem (by have := HM.out; omega)⟩
      obtain ⟨g', o', rfl, c2⟩ := IV.out j b hb wr hD.out
      have HX := Lib.hid hx
      have VA : Hid (vAt V (j : Int) = b) := Lib.hid (v_get (by rw [Int.toNat_natCast]; exact hb))
      clear hx hb hxr
      cases b
      · have e0 := Lib.hid (YES.out k _ HX.out VA.out)
        clear YES NOT HX VA
        go_wp2_with fail
        go_ret
        exact ⟨by rw [e0.out]; rfl, hD.out⟩
      · have T2 : Hid (∀ j x, j < k + 1 → l[j]? = some x → vAt V x = true) := Lib.hid (fun i x hi hx => by
          by_cases e : i = k
          · subst e
            rw [HX.out] at hx
            injection hx with hx
            rw [← hx, VA.out]
          · exact hT.out i x (by omega) hx)
        clear HX VA
        go_wp2_with fail
        go_roundw
        case rel => exact ⟨k + 1, by omega, by go_num, T2, hD⟩
        case measure => simp [intOf]; omega
    · obtain rfl : k = n := by omega
      have e0 := Lib.hid (NOT.out hT.out)
      go_wp2_with fail
      go_ret
      exact ⟨by rw [e0.out]; rfl, hD.out⟩
end NetAi
end Go.Proofs.YtgbbpliihglijaaGreat
/- evaluate.value: the value of a gate that is neither a base nor an input. Conditions: what it reads has values. Made by gnBz.py. -/
namespace Go.Proofs.YtgbbpliihglijaaGreat
open Go Go.RowKit
namespace NetVa
open Kit LexM TermM TermI NetM NetN NetK NetA NetC NetI NetMk NetNu NetOk NetEv NetBo NetAi
theorem gv_and {st ip : List Int} {V : List Bool} {g : Gt} (h : g.1 = 4) : gvN st ip V g = !(g.2.2.any fun x => vAt V x == false) := by
  unfold gvN
  rw [if_neg (by omega), if_neg (by omega), if_pos h, List.not_any_eq_all_not]
  congr 1
  funext x
  cases vAt V x <;> rfl
theorem gv_or {st ip : List Int} {V : List Bool} {g : Gt} (h : g.1 = 5) : gvN st ip V g = g.2.2.any fun x => vAt V x == true := by
  unfold gvN
  rw [if_neg (by omega), if_neg (by omega), if_neg (by omega), if_pos h]
  congr 1
  funext x
  cases vAt V x <;> rfl
theorem gv_not {st ip : List Int} {V : List Bool} {g : Gt} {x : Int} {b : Bool} (h : g.1 = 6) (hx : g.2.2[0]? = some x) (hv : vAt V x = b) : gvN st ip V g = !b := by
  unfold gvN
  rw [if_neg (by omega), if_neg (by omega), if_neg (by omega), if_neg (by omega), if_pos h, at_get hx, hv]
theorem gv_base {st ip : List Int} {V : List Bool} {g : Gt} (h : g.1 = 2) : gvN st ip V g = decide (g.2.1 ∈ st) := by
  unfold gvN
  rw [if_pos h]
theorem gv_input {st ip : List Int} {V : List Bool} {g : Gt} (h : g.1 = 3) : gvN st ip V g = decide (g.2.1 ∈ ip) := by
  unfold gvN
  rw [if_neg (by omega), if_pos h]
theorem gv_const {st ip : List Int} {V : List Bool} {g : Gt} (h : g.1 ≠ 2) (h3 : g.1 ≠ 3) (h4 : g.1 ≠ 4) (h5 : g.1 ≠ 5) (h6 : g.1 ≠ 6) : gvN st ip V g = (g.1 == 1) := by
  unfold gvN
  rw [if_neg h, if_neg h3, if_neg h4, if_neg h5, if_neg h6]
  rfl
set_option maxRecDepth 100000 in
set_option maxHeartbeats 3200000 in
theorem value_any (st ip : List Int) (g : Gt) (V : List Bool) (ok okV : Nat → Prop) (w : World) (v v' : Value) (hl : RowE KN ok w g.2.2 v) (hV : RowE KB okV w V v') (hk : ∀ b, ok b → b < w.heap.size) (hkV : ∀ b, okV b → b < w.heap.size) (hr : ∀ x ∈ g.2.2, 0 ≤ x ∧ x < (V.length : Int)) (h2 : g.1 ≠ 2) (h3 : g.1 ≠ 3) (h6 : g.1 = 6 → g.2.2.length = 1) :
    Calls Tryz.prog 36 #[.agg #[.int .i64 g.1, .int .i64 g.2.1, v], v'] w fun e w' => e = .returned (.bool (gvN st ip V g)) ∧ Below w.heap.size w w' := by
  obtain ⟨gk, gx, gl⟩ := g
  dsimp only at *
  have E4 := Lib.hid (gv_and (st := st) (ip := ip) (V := V) (g := (gk, gx, gl)))
  have E5 := Lib.hid (gv_or (st := st) (ip := ip) (V := V) (g := (gk, gx, gl)))
  have E6 := Lib.hid (fun x b => gv_not (st := st) (ip := ip) (V := V) (g := (gk, gx, gl)) (x := x) (b := b))
  have E1 := Lib.hid (gv_const (st := st) (ip := ip) (V := V) (g := (gk, gx, gl)) h2 h3)
  dsimp only at E4 E5 E6 E1
  generalize gvN st ip V (gk, gx, gl) = R at *
  obtain ⟨W1, hW1⟩ : ∃ z, z = w.alloc (.cells #[.int .i64 gk, .int .i64 gx, v] 55) := ⟨_, rfl⟩
  have K1 : Hid (Below w.heap.size w W1) := Lib.hid (by rw [hW1]; exact below_alloc _ _)
  have H1 : Has W1 w.heap.size #[.int .i64 gk, .int .i64 gx, v] := by rw [hW1]; exact Has.new _ _ _
  have hz := K1.out.size
  have AF := Lib.hid (anyfalse_any gl V ok okV W1 v v' (hl.keep fun b o h => K1.out.cell (p := ⟨b, o, none⟩) (hk b h)) (hV.keep fun b o h => K1.out.cell (p := ⟨b, o, none⟩) (hkV b h)) (fun b h => Nat.lt_of_lt_of_le (hk b h) hz) (fun b h => Nat.lt_of_lt_of_le (hkV b h) hz) hr)
  have AT := Lib.hid (anytrue_any gl V ok okV W1 v v' (hl.keep fun b o h => K1.out.cell (p := ⟨b, o, none⟩) (hk b h)) (hV.keep fun b o h => K1.out.cell (p := ⟨b, o, none⟩) (hkV b h)) (fun b h => Nat.lt_of_lt_of_le (hk b h) hz) (fun b h => Nat.lt_of_lt_of_le (hkV b h) hz) hr)
  obtain ⟨p, c, rfl⟩ := hl.form
  obtain ⟨p', c', rfl⟩ := hV.form
  have hcap' : V.length ≤ maxLen := by obtain ⟨_, h1, h2⟩ := hV.cap; omega
  unfold maxLen at hcap'
  have IR := Lib.hid (readn hl hk)
  have IV := Lib.hid (readb hV hkV)
  have x1 := H1.cell 0
  have x2 := H1.cell 1
  have x3 := H1.cell 2
  have HR := Lib.hid hr
  have H6 := Lib.hid h6
  clear hl hV hk hkV hr h2 h3 h6 H1
  generalize (gl.any fun x => vAt V x == false) = rf at *
  generalize (gl.any fun x => vAt V x == true) = rt at *
  by_cases k4 : gk = 4
  · have e0 := Lib.hid (E4.out k4)
    have i4 : (gk == 4) = true := by simp [k4]
    clear E4 E5 E6 E1 k4
    go_enter Tryz.func36, Tryz.ntmps36
    go_upto_region 1 with fail
    rw [← hW1]
    clear hW1
    go_wp2_with fail
    refine AF.out.mono ?_
    rintro e w4 ⟨rfl, g4⟩
    have D4 := Lib.hid (K1.out.trans (g4.mono hz))
    clear g4
    go_wp2_with fail
    go_ret
    exact ⟨by rw [e0.out]; rfl, D4.out⟩
  have i4 : (gk == 4) = false := by simp [k4]
  by_cases k5 : gk = 5
  · have e0 := Lib.hid (E5.out k5)
    have i5 : (gk == 5) = true := by simp [k5]
    clear E4 E5 E6 E1 k5 k4
    go_enter Tryz.func36, Tryz.ntmps36
    go_upto_region 1 with fail
    rw [← hW1]
    clear hW1
    go_wp2_with fail
    refine AT.out.mono ?_
    rintro e w4 ⟨rfl, g4⟩
    have D4 := Lib.hid (K1.out.trans (g4.mono hz))
    clear g4
    go_wp2_with fail
    go_ret
    exact ⟨by rw [e0.out]; rfl, D4.out⟩
  have i5 : (gk == 5) = false := by simp [k5]
  by_cases k6 : gk = 6
  · have hl1 := H6.out k6
    obtain ⟨x, hx⟩ : ∃ x, gl[0]? = some x := ⟨gl[0]'(by omega), by simp⟩
    obtain ⟨g, o, rfl, c1⟩ := IR.out 0 x hx W1 K1.out
    have hxr := HR.out x (List.mem_of_getElem? hx)
    obtain ⟨j, rfl⟩ : ∃ j : Nat, x = (j : Int) := ⟨x.toNat, by omega⟩
    have j2 : (0 : Int) ≤ (j : Int) := by omega
    have j3 : (j : Int) < V.length := hxr.2
    obtain ⟨b, hb⟩ : ∃ b, V[j]? = some b := ⟨_, List.getElem?_eq_getElem (by omega)⟩
    obtain ⟨g', o', rfl, c2⟩ := IV.out j b hb W1 K1.out
    have e0 := Lib.hid (E6.out _ b k6 hx (v_get (by rw [Int.toNat_natCast]; exact hb)))
    have i6 : (gk == 6) = true := by simp [k6]
    have j7 : (0 : Int) < (gl.length : Int) := by omega
    have j8 : 0 < gl.length := by omega
    rw [Nat.add_zero] at c1
    clear E4 E5 E6 E1 k5 k4 k6 hx hb hxr hl1
    generalize gl.length = n at *
    generalize V.length = m at *
    go_enter Tryz.func36, Tryz.ntmps36
    go_upto_region 1 with fail
    rw [← hW1]
    clear hW1
    go_wp2_with fail
    go_ret
    exact ⟨by rw [e0.out]; rfl, K1.out⟩
  have i6 : (gk == 6) = false := by simp [k6]
  have e0 := Lib.hid (E1.out k4 k5 k6)
  clear E4 E5 E6 E1 k5 k4 k6
  go_enter Tryz.func36, Tryz.ntmps36
  go_upto_region 1 with fail
  rw [← hW1]
  clear hW1
  go_wp2_with fail
  go_ret
  exact ⟨by rw [e0.out]; rfl, K1.out⟩
end NetVa
end Go.Proofs.YtgbbpliihglijaaGreat
/- subset.Members: the marks of a subset. Condition: at most a million numbers below the count. Made by gnMb.py. -/
namespace Go.Proofs.YtgbbpliihglijaaGreat
open Go Go.RowKit
namespace NetMb
open Kit LexM TermM TermI NetM NetN NetK NetA NetC NetI NetMk NetNu NetEv NetBo
/-- A new row of bools, in every later world. -/
def BlE (S : List Bool) (w : World) (e : Ending) (w' : World) : Prop := ∃ v, e = .returned v ∧ RowE KB (fun b => w.heap.size ≤ b ∧ b < w'.heap.size) w' S v ∧ Below w.heap.size w w'
theorem BlE.mk {S : List Bool} {w w' : World} {v : Value} (h : RowE KB (fun b => w.heap.size ≤ b ∧ b < w'.heap.size) w' S v) (h2 : Below w.heap.size w w') : BlE S w (.returned v) w' := ⟨v, rfl, h, h2⟩
set_option maxRecDepth 100000 in
set_option maxHeartbeats 3200000 in
theorem members_any (l : List Int) (m : Nat) (B : Nat) (w : World) (v : Value) (hB : B ≤ w.heap.size) (hl : RowE KN (· < B) w l v) (hm : m ≤ 1000000) (hr : ∀ x ∈ l, 0 ≤ x ∧ x < (m : Int)) :
    Calls Tryz.prog 29 #[v, .int .i64 m] w (BlE (memB l m) w) := by
  obtain ⟨p, c, rfl⟩ := hl.form
  have hcap : l.length ≤ maxLen := by obtain ⟨_, h1, h2⟩ := hl.cap; omega
  unfold maxLen at hcap
  have IR := Lib.hid (readn hl (fun b (h : b < B) => Nat.lt_of_lt_of_le h hB))
  obtain ⟨wm, M, O, G⟩ := make_b w m hm
  have O0 : Hid (wm.ownsRow w.heap.size 4 1 (.slice (some ⟨w.heap.size, 0, none⟩) m m) m (boolV (markL (List.replicate m false) (l.take 0)))) := Lib.hid O
  have B0 := Lib.hid ((Below.refl w.heap.size w).grown G (Nat.le_refl _) (fun k h => by cases h))
  have HR : Hid (∀ x ∈ l, 0 ≤ x ∧ x < (m : Int)) := Lib.hid hr
  have ML : Hid (∀ k, (markL (List.replicate m false) (l.take k)).length = m) := Lib.hid (fun k => by rw [mark_len]; simp)
  have MN := Lib.hid (fun k x (h : l[k]? = some x) => mark_next (List.replicate m false) l h)
  have FIN : Hid (memB l m = markL (List.replicate m false) (l.take l.length)) := Lib.hid (by rw [List.take_length]; rfl)
  have SZ := Lib.hid (Nat.le_refl w.heap.size)
  clear O G hl hB hr
  generalize hn : l.length = n at *
  have HN := Lib.hid hn
  clear hn
  generalize hg0 : w.heap.size = g0 at *
  have HG0 := Lib.hid hg0
  clear hg0
  go_enter Tryz.func29, Tryz.ntmps29
  go_wp2_with fail
  go_loopw [12] (fun i wr => ∃ k : Nat, k ≤ n ∧ i = .int .i64 k ∧ Hid (wr.ownsRow g0 4 1 (.slice (some ⟨g0, 0, none⟩) m m) m (boolV (markL (List.replicate m false) (l.take k)))) ∧ Hid (Below g0 w wr)) (fun i _ => n - (intOf i).toNat)
  case atStart => exact ⟨0, Nat.zero_le _, rfl, O0, B0⟩
  case round =>
    obtain ⟨k, hk, rfl, hO, hD⟩ := hrel
    by_cases hlt : k < n
    · obtain ⟨x, hx⟩ : ∃ x, l[k]? = some x := ⟨l[k]'(by rw [HN.out]; exact hlt), by simp⟩
      obtain ⟨g, o, rfl, c1⟩ := IR.out k x hx wr hD.out
      have hxr := HR.out x (List.mem_of_getElem? hx)
      obtain ⟨j, rfl⟩ : ∃ j : Nat, x = (j : Int) := ⟨x.toNat, by omega⟩
      have j0 : (0 : Int) ≤ (k : Int) := by omega
      have j1 : (k : Int) < n := by omega
      have j2 : (0 : Int) ≤ (j : Int) := by omega
      have j3 : (j : Int) < m := hxr.2
      have j4 : j < m := by omega
      have S1 : Hid ((boolV (markL (List.replicate m false) (l.take k))).set j (.bool true) = boolV (markL (List.replicate m false) (l.take (k + 1)))) := Lib.hid (by rw [boolv_set, MN.out k _ hx]; rfl)
      obtain ⟨b, hb⟩ : ∃ b, (markL (List.replicate m false) (l.take k))[j]? = some b := ⟨_, List.getElem?_eq_getElem (by rw [ML.out]; exact j4)⟩
      have x1 := (hO.out.cellAt j (by omega)).trans (boolv_get hb)
      have x2 := hO.out.frozenAt j
      have ST := Lib.hid (hO.out.stored j (.bool true))
      have hzr := hD.out.size
      clear hx hb hxr
      go_wp2_with fail
      go_roundw
      case rel =>
        refine ⟨k + 1, by omega, by go_num, ?_, ?_⟩
        · have h := ST.out.1
          rw [S1.out] at h
          exact Lib.hid h
        · exact Lib.hid (hD.out.grown ST.out.2 (by have := HG0.out; omega) (fun k h => by cases h; exact Nat.le_refl _))
      case measure => simp [intOf] <;> omega
    · obtain rfl : k = n := by omega
      have R7 : Hid (RowE KB (fun b => g0 ≤ b ∧ b < wr.heap.size) wr (memB l m) (.slice (some ⟨g0, 0, none⟩) m m)) := Lib.hid (by
        rw [FIN.out]
        refine own_rowb ?_
        rw [ML.out]
        exact hO.out)
      go_wp2_with fail
      go_ret
      exact BlE.mk (by rw [HG0.out]; exact R7.out) (by rw [HG0.out]; exact hD.out)
end NetMb
end Go.Proofs.YtgbbpliihglijaaGreat
/- slices.ContainsFunc with the package's closure; ascend at outputs. No conditions. Made by gnL.py. -/
namespace Go.Proofs.YtgbbpliihglijaaGreat
open Go Go.RowKit
namespace NetL
open Kit LexM TermM TermI NetM NetN NetK NetA NetB NetC NetP
theorem ascoutput (l : List Ou) (B : Nat) (w : World) (v : Value) (hB : B ≤ w.heap.size) (hl : LE KO (· < B) w l v) :
    Calls Tryz.prog 63 #[v, .func (.func 64) #[] #[]] w fun e w' => e = .returned (.bool (ordB cmpO l ou0)) ∧ Below w.heap.size w w' :=
  ascO_any cmpO l ou0 B w v hB hl fun _ x y qx dx qy dy w' _ _ q hx hy => NetE.cmpo_any x.1 y.1 x.2.1 y.2.1 x.2.2.2 y.2.2.2 x.2.2.1 y.2.2.1 B w' qx qy dx dy (Nat.le_trans hB q.size) hx.1 hy.1 hx.2.1 hy.2.1
theorem missing_any (g : Int) (N m c : Nat) (p : Option Addr) (w : World) (hN : w.cell? ⟨N, 0, none⟩ = some (.slice p m c)) :
    Calls Tryz.prog 62 #[.int .i64 g, .pointer (some ⟨N, 0, none⟩)] w fun e w' => e = .returned (.bool (!inB g m)) ∧ w = w' := by
  have BE := Lib.hid (below_any g m w)
  go_enter Tryz.func62, Tryz.ntmps62
  go_wp2_with fail
  refine BE.out.mono ?_
  rintro e w' ⟨rfl, rfl⟩
  go_wp2_with fail
  go_ret
  exact ⟨rfl, rfl⟩
set_option maxRecDepth 100000 in
set_option maxHeartbeats 3200000 in
theorem index_any (l : List Int) (N m c B : Nat) (p : Option Addr) (w : World) (v : Value) (hl : RowE KN (· < B) w l v) (hN : w.cell? ⟨N, 0, none⟩ = some (.slice p m c)) :
    Calls Tryz.prog 81 #[v, .func (.func 62) #[] #[.pointer (some ⟨N, 0, none⟩)]] w fun e w' => ∃ r : Int, e = .returned (.int .i64 r) ∧ (0 ≤ r ↔ (l.any fun x => !inB x m) = true) ∧ w = w' := by
  obtain ⟨lp, lc, rfl⟩ := hl.form
  obtain ⟨_, hc1, hc2⟩ := hl.cap
  unfold maxLen at hc2
  have HL := Lib.hid hl
  have MI := Lib.hid (fun g => missing_any g N m c p w hN)
  have AT : Hid (∀ (k : Nat) (x : Int), l[k]? = some x → inB x m = false → (l.any fun x => !inB x m) = true) := Lib.hid (fun k x hx e => List.any_eq_true.2 ⟨x, List.mem_of_getElem? hx, by rw [e]; rfl⟩)
  have AF : Hid ((∀ (k : Nat) (x : Int), l[k]? = some x → inB x m = true) → (l.any fun x => !inB x m) = false) := Lib.hid (fun h => by
    rw [Bool.eq_false_iff]
    intro e
    obtain ⟨x, hx, e⟩ := List.any_eq_true.1 e
    obtain ⟨j, hj⟩ := List.mem_iff_getElem?.1 hx
    rw [h j x hj] at e
    cases e)
  clear hl hN
  generalize (l.any fun x => !inB x m) = R at *
  generalize hn : l.length = n at *
  have HN := Lib.hid hn
  clear hn
  go_enter Tryz.func81, Tryz.ntmps81
  go_wp2_with fail
  go_loopw [8] (fun i wr => ∃ k : Nat, k ≤ n ∧ i = .int .i64 k ∧ Hid (∀ j x, j < k → l[j]? = some x → inB x m = true) ∧ w = wr) (fun i _ => n - (intOf i).toNat)
  case atStart => exact ⟨0, Nat.zero_le _, rfl, Lib.hid (fun j x hj => by omega), rfl⟩
  case round =>
    obtain ⟨k, hk, rfl, hT, rfl⟩ := hrel
    by_cases hlt : k < n
    · obtain ⟨x, hx⟩ : ∃ x, l[k]? = some x := ⟨l[k]'(by rw [HN.out]; omega), by simp⟩
      obtain ⟨g, o, rfl, hg, _, hcx⟩ := HL.out.at hx
      have c1 : w.cell? ⟨g, o + k, none⟩ = some (.int .i64 x) := by have := hcx 0 _ rfl; simpa [KN] using this
      have AT1 := Lib.hid (AT.out k x hx)
      have M1 := Lib.hid (MI.out x)
      have HX := Lib.hid hx
      clear hx hcx
      generalize hb : inB x m = b at *
      have HB := Lib.hid hb
      clear hb
      go_wp2_with fail
      refine M1.out.mono ?_
      rintro e w' ⟨rfl, rfl⟩
      cases b
      · have e1 := Lib.hid (AT1.out rfl)
        clear AT AF AT1
        go_wp2_with fail
        go_ret
        exact ⟨_, rfl, ⟨fun _ => e1.out, fun _ => by omega⟩, rfl⟩
      · have T2 : Hid (∀ j y, j < k + 1 → l[j]? = some y → inB y m = true) := Lib.hid (fun j y hj hy => by
          by_cases e : j = k
          · subst e
            rw [HX.out] at hy
            injection hy with hy
            rw [← hy]
            exact HB.out
          · exact hT.out j y (by omega) hy)
        clear AT1
        go_wp2_with fail
        go_roundw
        case rel => exact ⟨k + 1, by omega, by go_num, T2, by first | rfl | trivial⟩
        case measure => simp [intOf]; omega
    · obtain rfl : k = n := by omega
      have e1 := Lib.hid (AF.out (fun j x hx => hT.out j x (by have := (List.getElem?_eq_some_iff.1 hx).1; have := HN.out; omega) hx))
      clear AT AF
      go_wp2_with fail
      go_ret
      exact ⟨_, rfl, ⟨fun h => by omega, fun h => by rw [e1.out] at h; cases h⟩, rfl⟩
theorem contains_any (l : List Int) (N m c B : Nat) (p : Option Addr) (w : World) (v : Value) (hl : RowE KN (· < B) w l v) (hN : w.cell? ⟨N, 0, none⟩ = some (.slice p m c)) :
    Calls Tryz.prog 65 #[v, .func (.func 62) #[] #[.pointer (some ⟨N, 0, none⟩)]] w fun e w' => e = .returned (.bool (l.any fun x => !inB x m)) ∧ w = w' := by
  have CI := Lib.hid (index_any l N m c B p w v hl hN)
  obtain ⟨lp, lc, rfl⟩ := hl.form
  generalize (l.any fun x => !inB x m) = R at *
  clear hl hN
  go_enter Tryz.func65, Tryz.ntmps65
  go_wp2_with fail
  refine CI.out.mono ?_
  rintro e w' ⟨r, rfl, hr, rfl⟩
  have hr2 : Hid (R = decide (0 ≤ r)) := Lib.hid (by rw [Bool.eq_iff_iff, decide_eq_true_eq]; exact hr.symm)
  clear hr
  go_wp2_with fail
  go_ret
  exact ⟨by rw [hr2.out]; rfl, rfl⟩
end NetL
end Go.Proofs.YtgbbpliihglijaaGreat
/- The package's outputs: the gates of all outputs. Condition: at most a million outputs. Made by gnJ.py. -/
namespace Go.Proofs.YtgbbpliihglijaaGreat
open Go Go.RowKit
namespace NetJ
open Kit LexM TermM TermI NetM NetN NetK NetA NetI
theorem gates_next {l : List Ou} {k : Nat} {x : Ou} (h : l[k]? = some x) : (l.take (k + 1)).map (·.2.2.2) = (l.take k).map (·.2.2.2) ++ [x.2.2.2] := by
  rw [take_get l k x h, List.map_append]
  rfl
set_option maxRecDepth 100000 in
set_option maxHeartbeats 6400000 in
theorem outs_any (n : Nt) (h : Nh) (B : Nat) (w : World) (hB : B ≤ w.heap.size) (k : NetIn (· < B) w n h) (h1 : n.next.length ≤ 1000000) (h2 : n.legal.length ≤ 1000000) (h3 : n.goals.length ≤ 1000000) (h4 : n.sees.length ≤ 1000000) :
    Calls Tryz.prog 66 #[.agg #[.slice h.gp n.gates.length h.gc, .slice h.rp n.roles.length h.rc, .slice h.bp n.bases.length h.bc, .slice h.ip n.inputs.length h.ic, .slice h.ap n.initial.length h.ac, .slice h.np n.next.length h.nc, .slice h.lp n.legal.length h.lc, .slice h.op n.goals.length h.oc, .slice h.sp n.sees.length h.sc, .int .i64 n.last, .bool n.hid]] w fun e w' => ∃ v, e = .returned v ∧ RowE KN (fun b => w.heap.size ≤ b ∧ b < w'.heap.size) w' (outs n) v ∧ Below w.heap.size w w' := by
  obtain ⟨i0, hi0, hi1, hi2, hi3⟩ := info_parts Tryz.infoN
  obtain ⟨W1, hW1⟩ : ∃ z, z = w.alloc (.cells #[.slice h.gp n.gates.length h.gc, .slice h.rp n.roles.length h.rc, .slice h.bp n.bases.length h.bc, .slice h.ip n.inputs.length h.ic, .slice h.ap n.initial.length h.ac, .slice h.np n.next.length h.nc, .slice h.lp n.legal.length h.lc, .slice h.op n.goals.length h.oc, .slice h.sp n.sees.length h.sc, .int .i64 n.last, .bool n.hid] 28) := ⟨_, rfl⟩
  have K1 : Hid (Below w.heap.size w W1) := Lib.hid (by rw [hW1]; exact below_alloc _ _)
  have H1 : Hid (Has W1 w.heap.size (netC n h)) := Lib.hid (by rw [hW1]; exact Has.new _ _ _)
  have hzz := K1.out.size
  have KW := Lib.hid (fun w' (q : Below W1.heap.size W1 w') => show Below w.heap.size w w' from K1.out.trans (q.mono hzz))
  have NK := Lib.hid (fun w' (q : Below W1.heap.size W1 w') => k.deep (KW.out w' q) hB)
  have HQ := Lib.hid (fun w' (q : Below W1.heap.size W1 w') => hasN (H1.out.step0 q))
  have IN := Lib.hid (fun x hx => show I64 x from by obtain ⟨_, _, _, _, _, _, hh, _⟩ := k.next; exact hh x hx)
  have IL := Lib.hid (fun x hx => show I64 x from by obtain ⟨_, _, _, _, _, _, hh, _⟩ := k.legal; exact hh x hx)
  have IT := Lib.hid k.last
  have OUT : Hid (outs n = n.next ++ n.legal ++ n.goals.map (·.2.2.2) ++ n.sees.map (·.2.2.2) ++ [n.last]) := Lib.hid rfl
  clear k
  obtain ⟨q1, q2, q3, q4, q5, q6, q7, q8, q9, q10, q11⟩ := HQ.out W1 (Below.refl _ _)
  obtain ⟨a, ha⟩ : ∃ a, a = n.next.length := ⟨_, rfl⟩
  obtain ⟨b, hb⟩ : ∃ b, b = n.legal.length := ⟨_, rfl⟩
  obtain ⟨c, hc⟩ : ∃ c, c = n.goals.length := ⟨_, rfl⟩
  obtain ⟨d, hd⟩ : ∃ d, d = n.sees.length := ⟨_, rfl⟩
  have NS := Lib.hid (nil_own W1.heap.size W1 3 1)
  have RN := Lib.hid (NK.out W1 (Below.refl _ _)).next
  have RL := Lib.hid (fun w' q => (NK.out w' q).legal)
  have HA := Lib.hid ha
  have HBl := Lib.hid hb
  have HC := Lib.hid hc
  have HD := Lib.hid hd
  rw [← ha] at h1 q6 RN
  rw [← hb] at h2 q7 RL
  rw [← hc] at h3 q8
  rw [← hd] at h4 q9
  have A1 : 0 + a ≤ maxLen := by unfold maxLen; omega
  have A2 : (0 + a) * 8 ≤ 140737488355328 := by omega
  have A3 : a + b ≤ maxLen := by unfold maxLen; omega
  have A4 : (a + b) * 8 ≤ 140737488355328 := by omega
  clear ha hb hc hd
  go_enter Tryz.func66, Tryz.ntmps66
  go_upto_region 1 with fail
  rw [← hW1]
  clear hW1
  go_upto_region 3 with (at_builtin; go_must (refine append_nums rfl _ _ 25 rfl W1.heap.size 3 i0 (.int .i64 0) 8 Tryz.underlying25 hi0 hi1 hi2 hi3 rfl (.slice none 0 0) 0 [] rfl NS.out _ h.np a h.nc n.next rfl RN.out A1 A2 (Nat.le_refl _) ?_; intro v2 w2 hown2 hgrow2 hob2; have D2 := Lib.hid ((Below.refl W1.heap.size W1).grown hgrow2 (Nat.le_refl _) (fun j hj => (NS.out.lt j hj).1)); have O2 : Hid (w2.ownsRow W1.heap.size 3 1 v2 a (numV n.next)) := Lib.hid (by have h := hown2; rw [Nat.zero_add] at h; exact h); clear hown2 hgrow2 hob2; obtain ⟨a2, c2, rfl⟩ := form1 O2.out))
  clear q1 q2 q3 q4 q5 q6 q7 q8 q9 q10 q11
  obtain ⟨q1, q2, q3, q4, q5, q6, q7, q8, q9, q10, q11⟩ := HQ.out w2 D2.out
  rw [← HBl.out] at q7
  have RL2 := Lib.hid (RL.out w2 D2.out)
  have hz2 := D2.out.size
  go_upto_region 4 with (at_builtin; go_must (refine append_nums rfl _ _ 25 rfl W1.heap.size 3 i0 (.int .i64 0) 8 Tryz.underlying25 hi0 hi1 hi2 hi3 rfl (.slice a2 a c2) a (numV n.next) rfl O2.out _ h.lp b h.lc n.legal rfl RL2.out A3 A4 hz2 ?_; intro v3 w3 hown3 hgrow3 hob3; have D3 := Lib.hid (D2.out.grown hgrow3 hz2 (fun j hj => (O2.out.lt j hj).1)); obtain ⟨N3, hN3⟩ : ∃ N3, N3 = a + b := ⟨_, rfl⟩; have O3 : Hid (w3.ownsRow W1.heap.size 3 1 v3 N3 (numV (n.next ++ n.legal))) := Lib.hid (by have h := hown3; rw [← numv_app, ← hN3] at h; exact h); have HN3 : Hid (N3 = (n.next ++ n.legal).length) := Lib.hid (by rw [hN3, HA.out, HBl.out, List.length_append]); clear hown3 hgrow3 hob3 hN3; obtain ⟨a3, c3, rfl⟩ := form1 O3.out))
  clear q1 q2 q3 q4 q5 q6 q7 q8 q9 q10 q11
  obtain ⟨q1, q2, q3, q4, q5, q6, q7, q8, q9, q10, q11⟩ := HQ.out w3 D3.out
  rw [← HC.out] at q8
  have hX : Hid ((n.next ++ n.legal).length ≤ 2000000) := Lib.hid (by rw [List.length_append, ← HA.out, ← HBl.out]; omega)
  have IX : Hid (∀ x ∈ n.next ++ n.legal, I64 x) := Lib.hid (fun x hx => by
    rcases List.mem_append.1 hx with hx | hx
    · exact IN.out x hx
    · exact IL.out x hx)
  have OUT2 : Hid (∀ X : List Int, X = n.next ++ n.legal → outs n = X ++ n.goals.map (·.2.2.2) ++ n.sees.map (·.2.2.2) ++ [n.last]) := Lib.hid (fun X e => by rw [OUT.out, e])
  generalize hXe : n.next ++ n.legal = X at *
  have OUT3 := Lib.hid (OUT2.out X rfl)
  have O3' : Hid (w3.ownsRow W1.heap.size 3 1 (.slice a3 N3 c3) X.length (numV X)) := Lib.hid (by rw [← HN3.out]; exact O3.out)
  clear hXe OUT OUT2 IN IL RN RL RL2 O2 NS A1 A2 A3 A4
  go_wp2_with fail
  go_loopw [3, 19] (fun u3 i wr => ∃ (k : Nat) (F : List Int), k ≤ c ∧ i = .int .i64 k ∧ Hid (F = X ++ (n.goals.take k).map (·.2.2.2)) ∧ Hid (wr.ownsRow W1.heap.size 3 1 u3 F.length (numV F)) ∧ Hid (∀ x ∈ F, I64 x) ∧ Hid (Below W1.heap.size W1 wr)) (fun _ i _ => c - (intOf i).toNat)
  case atStart => exact ⟨0, X, Nat.zero_le _, rfl, Lib.hid (by simp), O3', IX, D3⟩
  case round =>
    obtain ⟨k, F, hk, rfl, hF, hO, hI, hD⟩ := hrel
    obtain ⟨va, vc, rfl⟩ := form1 hO.out
    obtain ⟨q1, q2, q3, q4, q5, q6, q7, q8, q9, q10, q11⟩ := HQ.out wr hD.out
    have hFl : F.length ≤ 4000000 := by have h := hF.out; have h2 := hX.out; rw [h, List.length_append, List.length_map, List.length_take]; omega
    by_cases hlt : k < c
    · obtain ⟨x, hx⟩ : ∃ x, n.goals[k]? = some x := ⟨n.goals[k]'(by rw [← HC.out]; exact hlt), by simp⟩
      obtain ⟨vx, b, o, ep, hbB, ix, hcx⟩ := (NK.out wr hD.out).goals.at hx
      obtain ⟨q, d, ex⟩ : ∃ q d, vx = .slice q x.2.2.1.args.length d := ix.1.form
      subst ex
      have c0 : wr.cell? ⟨b, o + k * 5, none⟩ = some (.int .i64 x.1) := hcx 0 _ rfl
      have c1 : wr.cell? ⟨b, o + k * 5 + 1, none⟩ = some (.int .i64 x.2.1) := hcx 1 _ rfl
      have c2 : wr.cell? ⟨b, o + k * 5 + 2, none⟩ = some (.string x.2.2.1.nm) := hcx 2 _ rfl
      have c3 : wr.cell? ⟨b, o + k * 5 + 2 + 1, none⟩ = some (.slice q x.2.2.1.args.length d) := hcx 3 _ rfl
      have c4 : wr.cell? ⟨b, o + k * 5 + 4, none⟩ = some (.int .i64 x.2.2.2) := hcx 4 _ rfl
      obtain ⟨W3, hW3⟩ : ∃ z, z = wr.alloc (.cells #[.int .i64 x.1, .int .i64 x.2.1, .string x.2.2.1.nm, .slice q x.2.2.1.args.length d, .int .i64 x.2.2.2] 62) := ⟨_, rfl⟩
      have J3 : Hid (Below wr.heap.size wr W3) := Lib.hid (by rw [hW3]; exact below_alloc _ _)
      have H3 : Has W3 wr.heap.size #[.int .i64 x.1, .int .i64 x.2.1, .string x.2.2.1.nm, .slice q x.2.2.1.args.length d, .int .i64 x.2.2.2] := by rw [hW3]; exact Has.new _ _ _
      have y4 : W3.cell? ⟨wr.heap.size, 4, none⟩ = some (.int .i64 x.2.2.2) := H3.cell 4
      have D3 := Lib.hid (next0 hD.out J3.out)
      have O3 := Lib.hid (own_below hO.out J3.out)
      have GX := Lib.hid (gates_next hx)
      have IXX : Hid (I64 x.2.2.2) := Lib.hid ix.2.2.2.2
      clear hx ix H3 hcx hO
      generalize x.1 = x1 at *
      generalize x.2.1 = x2 at *
      generalize x.2.2.1.nm = x3 at *
      generalize x.2.2.1.args.length = x4 at *
      generalize x.2.2.2 = xg at *
      have F2 : Hid (F ++ [xg] = X ++ (n.goals.take (k + 1)).map (·.2.2.2)) := Lib.hid (by rw [GX.out, hF.out, List.append_assoc])
      have I2 : Hid (∀ y ∈ F ++ [xg], I64 y) := Lib.hid (fun y hy => by
        rcases List.mem_append.1 hy with hy | hy
        · exact hI.out y hy
        · rw [List.mem_singleton.1 hy]
          exact IXX.out)
      have A1 : F.length + 1 ≤ maxLen := by unfold maxLen; omega
      have A2 : (F.length + 1) * 8 ≤ 140737488355328 := by omega
      have hz3 := D3.out.size
      have A3 : W1.heap.size ≤ (W3.alloc (.cells #[.int .i64 xg] 3)).heap.size := by simp <;> omega
      go_upto_region 7 with fail
      rw [← hW3]
      clear hW3 c0 c1 c2 c3 c4 ep q1 q2 q3 q4 q5 q6 q7 q8 q9 q10 q11
      go_wp2_with (at_builtin; go_must (refine wpList_append_lies _ rfl _ _ 25 rfl W1.heap.size 3 i0 (.int .i64 0) 1 8 Tryz.underlying25 hi0 hi1 hi2 hi3 rfl (by decide) (.slice va F.length vc) F.length (numV F) rfl (O3.out.alloc _) ⟨W3.heap.size, 0, none⟩ 1 1 [.int .i64 xg] rfl rfl (World.news_of_block (heap_alloc_new W3 _)) (one_int xg) (by decide) A1 A2 A3 (W3.heap.size + 1) (by simp) ?_; intro g6 c6 w6 hown6 hgrow6 hat6 hlt6; have O6 : Hid (w6.ownsRow W1.heap.size 3 1 (.slice (some ⟨g6, 0, none⟩) (F.length + 1) c6) (F ++ [xg]).length (numV (F ++ [xg]))) := Lib.hid (by rw [List.length_append, numv_app]; exact hown6); have D6 := Lib.hid ((D3.out.alloc hz3 (.cells #[.int .i64 xg] 3)).grown hgrow6 (by simp <;> omega) (fun j hj => (O3.out.lt j hj).1)); clear hown6 hgrow6 hat6 hlt6))
      go_roundw
      case rel => first | exact ⟨k + 1, F ++ [xg], by omega, by go_num, F2, O6, I2, D6⟩ | ((repeat (apply Exists.intro)); refine ⟨?_, rfl⟩; exact ⟨k + 1, F ++ [xg], by omega, by go_num, F2, O6, I2, D6⟩)
      case measure => simp [intOf]; omega
    · obtain rfl : k = c := by omega
      have FA : Hid (F = X ++ n.goals.map (·.2.2.2)) := Lib.hid (by rw [hF.out, List.take_of_length_le (Nat.le_of_eq HC.out.symm)])
      have hXY : Hid (F.length ≤ 3000000) := Lib.hid (by rw [FA.out, List.length_append, List.length_map, ← HC.out]; have := hX.out; omega)
      have OUT4 : Hid (outs n = F ++ n.sees.map (·.2.2.2) ++ [n.last]) := Lib.hid (by rw [OUT3.out, FA.out])
      clear OUT3 FA hX hF hFl IX
      have hX := hXY
      clear hXY
      rw [← HD.out] at q9
      generalize F = Y at *
      go_wp2_with fail
      clear q1 q2 q3 q4 q5 q6 q7 q8 q9 q10 q11
      go_loopw [3, 32] (fun u3 i wr => ∃ (k : Nat) (F : List Int), k ≤ d ∧ i = .int .i64 k ∧ Hid (F = Y ++ (n.sees.take k).map (·.2.2.2)) ∧ Hid (wr.ownsRow W1.heap.size 3 1 u3 F.length (numV F)) ∧ Hid (∀ x ∈ F, I64 x) ∧ Hid (Below W1.heap.size W1 wr)) (fun _ i _ => d - (intOf i).toNat)
      case atStart => exact ⟨0, Y, Nat.zero_le _, rfl, Lib.hid (by simp), hO, hI, hD⟩
      case round =>
        obtain ⟨k, F, hk, rfl, hF, hO, hI, hD⟩ := hrel
        obtain ⟨va, vc, rfl⟩ := form1 hO.out
        obtain ⟨q1, q2, q3, q4, q5, q6, q7, q8, q9, q10, q11⟩ := HQ.out wr hD.out
        have hFl : F.length ≤ 4000000 := by have h := hF.out; have h2 := hX.out; rw [h, List.length_append, List.length_map, List.length_take]; omega
        by_cases hlt : k < d
        · obtain ⟨x, hx⟩ : ∃ x, n.sees[k]? = some x := ⟨n.sees[k]'(by rw [← HD.out]; exact hlt), by simp⟩
          obtain ⟨vx, b, o, ep, hbB, ix, hcx⟩ := (NK.out wr hD.out).sees.at hx
          obtain ⟨q, d, ex⟩ : ∃ q d, vx = .slice q x.2.2.1.args.length d := ix.1.form
          subst ex
          have c0 : wr.cell? ⟨b, o + k * 5, none⟩ = some (.int .i64 x.1) := hcx 0 _ rfl
          have c1 : wr.cell? ⟨b, o + k * 5 + 1, none⟩ = some (.int .i64 x.2.1) := hcx 1 _ rfl
          have c2 : wr.cell? ⟨b, o + k * 5 + 2, none⟩ = some (.string x.2.2.1.nm) := hcx 2 _ rfl
          have c3 : wr.cell? ⟨b, o + k * 5 + 2 + 1, none⟩ = some (.slice q x.2.2.1.args.length d) := hcx 3 _ rfl
          have c4 : wr.cell? ⟨b, o + k * 5 + 4, none⟩ = some (.int .i64 x.2.2.2) := hcx 4 _ rfl
          obtain ⟨W3, hW3⟩ : ∃ z, z = wr.alloc (.cells #[.int .i64 x.1, .int .i64 x.2.1, .string x.2.2.1.nm, .slice q x.2.2.1.args.length d, .int .i64 x.2.2.2] 62) := ⟨_, rfl⟩
          have J3 : Hid (Below wr.heap.size wr W3) := Lib.hid (by rw [hW3]; exact below_alloc _ _)
          have H3 : Has W3 wr.heap.size #[.int .i64 x.1, .int .i64 x.2.1, .string x.2.2.1.nm, .slice q x.2.2.1.args.length d, .int .i64 x.2.2.2] := by rw [hW3]; exact Has.new _ _ _
          have y4 : W3.cell? ⟨wr.heap.size, 4, none⟩ = some (.int .i64 x.2.2.2) := H3.cell 4
          have D3 := Lib.hid (next0 hD.out J3.out)
          have O3 := Lib.hid (own_below hO.out J3.out)
          have GX := Lib.hid (gates_next hx)
          have IXX : Hid (I64 x.2.2.2) := Lib.hid ix.2.2.2.2
          clear hx ix H3 hcx hO
          generalize x.1 = x1 at *
          generalize x.2.1 = x2 at *
          generalize x.2.2.1.nm = x3 at *
          generalize x.2.2.1.args.length = x4 at *
          generalize x.2.2.2 = xg at *
          have F2 : Hid (F ++ [xg] = Y ++ (n.sees.take (k + 1)).map (·.2.2.2)) := Lib.hid (by rw [GX.out, hF.out, List.append_assoc])
          have I2 : Hid (∀ y ∈ F ++ [xg], I64 y) := Lib.hid (fun y hy => by
            rcases List.mem_append.1 hy with hy | hy
            · exact hI.out y hy
            · rw [List.mem_singleton.1 hy]
              exact IXX.out)
          have A1 : F.length + 1 ≤ maxLen := by unfold maxLen; omega
          have A2 : (F.length + 1) * 8 ≤ 140737488355328 := by omega
          have hz3 := D3.out.size
          have A3 : W1.heap.size ≤ (W3.alloc (.cells #[.int .i64 xg] 3)).heap.size := by simp <;> omega
          go_upto_region 12 with fail
          rw [← hW3]
          clear hW3 c0 c1 c2 c3 c4 ep q1 q2 q3 q4 q5 q6 q7 q8 q9 q10 q11
          go_wp2_with (at_builtin; go_must (refine wpList_append_lies _ rfl _ _ 25 rfl W1.heap.size 3 i0 (.int .i64 0) 1 8 Tryz.underlying25 hi0 hi1 hi2 hi3 rfl (by decide) (.slice va F.length vc) F.length (numV F) rfl (O3.out.alloc _) ⟨W3.heap.size, 0, none⟩ 1 1 [.int .i64 xg] rfl rfl (World.news_of_block (heap_alloc_new W3 _)) (one_int xg) (by decide) A1 A2 A3 (W3.heap.size + 1) (by simp) ?_; intro g6 c6 w6 hown6 hgrow6 hat6 hlt6; have O6 : Hid (w6.ownsRow W1.heap.size 3 1 (.slice (some ⟨g6, 0, none⟩) (F.length + 1) c6) (F ++ [xg]).length (numV (F ++ [xg]))) := Lib.hid (by rw [List.length_append, numv_app]; exact hown6); have D6 := Lib.hid ((D3.out.alloc hz3 (.cells #[.int .i64 xg] 3)).grown hgrow6 (by simp <;> omega) (fun j hj => (O3.out.lt j hj).1)); clear hown6 hgrow6 hat6 hlt6))
          go_roundw
          case rel => first | exact ⟨k + 1, F ++ [xg], by omega, by go_num, F2, O6, I2, D6⟩ | ((repeat (apply Exists.intro)); refine ⟨?_, rfl⟩; exact ⟨k + 1, F ++ [xg], by omega, by go_num, F2, O6, I2, D6⟩)
          case measure => simp [intOf]; omega
        · obtain rfl : k = d := by omega
          have FA : Hid (F = Y ++ n.sees.map (·.2.2.2)) := Lib.hid (by rw [hF.out, List.take_of_length_le (Nat.le_of_eq HD.out.symm)])
          have e1 : Hid (F ++ [n.last] = outs n) := Lib.hid (by rw [OUT4.out, FA.out])
          have I9 : Hid (∀ y ∈ F ++ [n.last], I64 y) := Lib.hid (fun y hy => by
            rcases List.mem_append.1 hy with hy | hy
            · exact hI.out y hy
            · rw [List.mem_singleton.1 hy]
              exact IT.out)
          have A1 : F.length + 1 ≤ maxLen := by unfold maxLen; omega
          have A2 : (F.length + 1) * 8 ≤ 140737488355328 := by omega
          have hz3 := hD.out.size
          generalize n.last = t at *
          have A3 : W1.heap.size ≤ (wr.alloc (.cells #[.int .i64 t] 3)).heap.size := by simp <;> omega
          go_wp2_with (at_builtin; go_must (refine wpList_append_lies _ rfl _ _ 25 rfl W1.heap.size 3 i0 (.int .i64 0) 1 8 Tryz.underlying25 hi0 hi1 hi2 hi3 rfl (by decide) (.slice va F.length vc) F.length (numV F) rfl (hO.out.alloc _) ⟨wr.heap.size, 0, none⟩ 1 1 [.int .i64 t] rfl rfl (World.news_of_block (heap_alloc_new wr _)) (one_int t) (by decide) A1 A2 A3 (wr.heap.size + 1) (by simp) ?_; intro g6 c6 w6 hown6 hgrow6 hat6 hlt6; have O6 : Hid (w6.ownsRow W1.heap.size 3 1 (.slice (some ⟨g6, 0, none⟩) (F.length + 1) c6) (F ++ [t]).length (numV (F ++ [t]))) := Lib.hid (by rw [List.length_append, numv_app]; exact hown6); have D6 := Lib.hid ((hD.out.alloc hz3 (.cells #[.int .i64 t] 3)).grown hgrow6 (by simp <;> omega) (fun j hj => (hO.out.lt j hj).1)); clear hown6 hgrow6 hat6 hlt6))
          go_ret
          have R6 := own_row O6.out I9.out
          rw [e1.out] at R6
          exact ⟨_, rfl, R6.wide (fun b hb => ⟨Nat.le_trans hzz hb.1, hb.2⟩), KW.out _ D6.out⟩
end NetJ
end Go.Proofs.YtgbbpliihglijaaGreat
/- append of numbers at a step of a drawn region; a slice literal of one number. Conditions: sizes as the append asks. -/
namespace Go.Proofs.YtgbbpliihglijaaGreat
open Go Go.RowKit
namespace NetW
open Kit LexM TermM TermI NetM NetN NetK NetA NetI
theorem own_lit (w : World) (t : Int) : ((w.alloc (.cells #[.int .i64 t] 3)).drew).ownsRow w.heap.size 3 1 (.slice (some ⟨w.heap.size, 0, none⟩) 1 1) 1 (numV [t]) :=
  ⟨rfl, Or.inr ⟨w.heap.size, 1, #[.int .i64 t], rfl, Nat.le_refl _, heap_alloc_new w _, Nat.le_refl _, by unfold maxLen; omega, rfl, rfl⟩⟩
theorem has_grown {w w' : World} {g : Nat} {cs : Array Value} {row : Option Nat} (h : Has w g cs) (hg : w.grownBy w' row) (hne : row ≠ some g) : Has w' g cs := by
  have hl := h.lt
  obtain ⟨t, h⟩ := h
  exact ⟨t, (hg.block g hl (fun e => hne e.symm)).trans h⟩
theorem step_append_nums {P : Program} {w : World} {ops : Array Oper} {o : Oper} {a : Act} {K : Act → World → Prop} {Q : Exit → Act → World → Prop} {E : Prop} (hgd : o.guard = none) (s x : Operand) (t : TypeId)
    (ho : o.op = .call { callee := .builtin .append, args := #[s, x], argTypes := #[t, t] })
    (base : Nat) (e : TypeId) (i : TypeInfo) (z : Value) (bytes : Nat) (ht : P.underlying t = some (.slice e)) (hi : P.info? e = some i) (hz : i.zero = some z) (hsize : i.size = 1) (hby : i.bytes = bytes) (hzs : z.cells.size = 1)
    (v : Value) (n : Nat) (xs : List Value) (hs : a.eval s = v) (hown : w.ownsRow base e 1 v n xs)
    (ok : Nat → Prop) (p : Option Addr) (m c : Nat) (L : List Int) (hx : a.eval x = .slice p m c) (hrow : RowE KN ok w L (.slice p m c))
    (h63 : n + m ≤ maxLen) (hbytes : (n + m) * bytes ≤ 140737488355328) (hbase : base ≤ w.heap.size)
    (h : ∀ v' w', w'.ownsRow base e 1 v' (n + m) (xs ++ numV L) → w.grownBy w' v.ownBlock → K (a.put o.dst v') w') :
    if Region.wanted o (yielded ops a.tmps) = true then Oper.wp P o a w K Q else E := by
  have hw : Region.wanted o (yielded ops a.tmps) = true := by simp [Region.wanted, hgd]
  rw [if_pos hw]
  obtain ⟨hm, h1, h2⟩ := hrow.cap
  cases p with
  | none =>
    have hc : c = 0 := by
      obtain ⟨p', c', e', h0, _⟩ := hrow
      injection e' with e1 _ e3
      rw [e3]
      exact h0 e1.symm
    subst hc
    obtain rfl : m = 0 := by omega
    have hL : L = [] := List.eq_nil_of_length_eq_zero hm.symm
    have hr := run_append_owned_none (P := P) (w := w) base t o.type e i 1 ht hi v n xs hown
    unfold Oper.wp execOp
    simp only [ho, resolve, invoke, builtin, Sem.run_bind, Sem.run_pure, Result.andThen_ok, List.map_toArray, List.map_cons, List.map_nil, hs, hx, hr]
    refine h v w ?_ ⟨rfl, rfl, rfl, Nat.le_refl _, fun _ _ _ => rfl⟩
    rw [hL]
    simpa [NetI.numV] using hown
  | some b =>
    obtain ⟨v', w', hr, a1, a2, _, _⟩ := run_append_own_at (P := P) (w := w) base t o.type e i z 1 bytes ht hi hz hsize hby hzs (by omega) v n xs hown b m c (numV L) (by rw [numv_len, hm]; omega) (row_news hrow) (one_num L) h63 hbytes hbase
    unfold Oper.wp execOp
    simp only [ho, resolve, invoke, builtin, Sem.run_bind, Sem.run_pure, Result.andThen_ok, List.map_toArray, List.map_cons, List.map_nil, hs, hx, hr]
    exact h v' w' a1 a2
end NetW
end Go.Proofs.YtgbbpliihglijaaGreat
/- Bools of the plain package: equality of lists of bools. No conditions. Made by gnBz.py out of NetZ. -/
namespace Go.Proofs.YtgbbpliihglijaaGreat
open Go Go.RowKit
namespace NetBz
open Kit LexM TermM TermI NetM NetN NetK NetA NetNu
set_option maxRecDepth 100000 in
set_option maxHeartbeats 3200000 in
theorem bools_any (A L : List Bool) (ok ok' : Nat → Prop) (w : World) (v v' : Value) (ha : RowE KB ok w A v) (hl : RowE KB ok' w L v') (hk : ∀ b, ok b → b < w.heap.size) (hk' : ∀ b, ok' b → b < w.heap.size) :
    Calls Tryz.prog 13 #[v, v'] w fun e w' => e = .returned (.bool (decide (A = L))) ∧ Below w.heap.size w w' := by
  obtain ⟨p, c, rfl⟩ := ha.form
  obtain ⟨p', c', rfl⟩ := hl.form
  have hcap : A.length ≤ maxLen := by obtain ⟨_, h1, h2⟩ := ha.cap; omega
  unfold maxLen at hcap
  have CA : Hid (∀ j x, A[j]? = some x → ∀ w', Below w.heap.size w w' → ∃ g o, p = some ⟨g, o, none⟩ ∧ w'.cell? ⟨g, o + j, none⟩ = some (.bool x)) := Lib.hid (fun j x hx w' q => by
    obtain ⟨g, o, e1, e2, _, e4⟩ := ha.at hx
    refine ⟨g, o, e1, (q.cell (p := ⟨g, _, none⟩) (hk g e2)).trans ?_⟩
    have := e4 0 _ rfl
    simpa [KB] using this)
  have CL : Hid (∀ j x, L[j]? = some x → ∀ w', Below w.heap.size w w' → ∃ g o, p' = some ⟨g, o, none⟩ ∧ w'.cell? ⟨g, o + j, none⟩ = some (.bool x)) := Lib.hid (fun j x hx w' q => by
    obtain ⟨g, o, e1, e2, _, e4⟩ := hl.at hx
    refine ⟨g, o, e1, (q.cell (p := ⟨g, _, none⟩) (hk' g e2)).trans ?_⟩
    have := e4 0 _ rfl
    simpa [KB] using this)
  clear ha hl hk hk'
  obtain ⟨R, hR⟩ : ∃ R, R = decide (A = L) := ⟨_, rfl⟩
  have HR := Lib.hid hR
  rw [← hR]
  clear hR
  generalize hn : A.length = n at *
  have HN := Lib.hid hn
  generalize hm : L.length = m at *
  have HM := Lib.hid hm
  clear hn hm
  by_cases hnm : n = m
  rotate_left
  · have e0 : Hid (R = false) := Lib.hid (by rw [HR.out, decide_eq_false_iff_not]; exact fun h => hnm (by rw [← HN.out, h, HM.out]))
    have i1 : ((n : Int) != (m : Int)) = true := by simp; omega
    clear hnm
    go_enter Tryz.func13, Tryz.ntmps13
    go_wp2_with fail
    go_ret
    exact ⟨by rw [e0.out]; rfl, Below.refl _ _⟩
  subst hnm
  go_enter Tryz.func13, Tryz.ntmps13
  go_wp2_with fail
  go_loopw [13] (fun i wr => ∃ k : Nat, k ≤ n ∧ i = .int .i64 k ∧ Hid (∀ j, j < k → A[j]? = L[j]?) ∧ Hid (Below w.heap.size w wr)) (fun i _ => n - (intOf i).toNat)
  case atStart => exact ⟨0, Nat.zero_le _, rfl, Lib.hid (fun j hj => by omega), Lib.hid (Below.refl _ _)⟩
  case round =>
    obtain ⟨k, hk, rfl, hT, hD⟩ := hrel
    by_cases hlt : k < n
    · obtain ⟨x, hx⟩ : ∃ x, A[k]? = some x := ⟨A[k]'(by rw [HN.out]; exact hlt), by simp⟩
      obtain ⟨y, hy⟩ : ∃ y, L[k]? = some y := ⟨L[k]'(by rw [HM.out]; exact hlt), by simp⟩
      obtain ⟨g, o, rfl, c1⟩ := CA.out k x hx wr hD.out
      obtain ⟨g', o', rfl, c2⟩ := CL.out k y hy wr hD.out
      have j0 : (0 : Int) ≤ (k : Int) := by omega
      have j1 : (k : Int) < n := by omega
      have HX := Lib.hid hx
      have HY := Lib.hid hy
      clear hx hy
      rcases Bool.eq_false_or_eq_true x with rfl | rfl <;> rcases Bool.eq_false_or_eq_true y with rfl | rfl
      · have T2 : Hid (∀ j, j < k + 1 → A[j]? = L[j]?) := Lib.hid (fun j hj => by
          by_cases e : j = k
          · subst e
            rw [HX.out, HY.out]
          · exact hT.out j (by omega))
        clear HX HY
        go_upto_region 6 with fail
        go_quiet (fail)
        go_wp2_with fail
        go_roundw
        case rel => first | exact ⟨k + 1, by omega, by go_num, T2, Lib.hid (below_drewN hD.out _)⟩ | ((repeat (apply Exists.intro)); refine ⟨?_, rfl⟩; exact ⟨k + 1, by omega, by go_num, T2, Lib.hid (below_drewN hD.out _)⟩)
        case measure => simp [intOf]; omega
      · have e0 : Hid (R = false) := Lib.hid (by
          rw [HR.out, decide_eq_false_iff_not]
          intro h
          have := HX.out
          rw [h, HY.out] at this
          cases this)
        clear HX HY
        go_upto_region 6 with fail
        go_quiet (fail)
        go_wp2_with fail
        go_ret
        exact ⟨by rw [e0.out]; rfl, below_drewN hD.out _⟩
      · have e0 : Hid (R = false) := Lib.hid (by
          rw [HR.out, decide_eq_false_iff_not]
          intro h
          have := HX.out
          rw [h, HY.out] at this
          cases this)
        clear HX HY
        go_upto_region 6 with fail
        go_quiet (fail)
        go_wp2_with fail
        go_ret
        exact ⟨by rw [e0.out]; rfl, below_drewN hD.out _⟩
      · have T2 : Hid (∀ j, j < k + 1 → A[j]? = L[j]?) := Lib.hid (fun j hj => by
          by_cases e : j = k
          · subst e
            rw [HX.out, HY.out]
          · exact hT.out j (by omega))
        clear HX HY
        go_upto_region 6 with fail
        go_quiet (fail)
        go_wp2_with fail
        go_roundw
        case rel => first | exact ⟨k + 1, by omega, by go_num, T2, Lib.hid (below_drewN hD.out _)⟩ | ((repeat (apply Exists.intro)); refine ⟨?_, rfl⟩; exact ⟨k + 1, by omega, by go_num, T2, Lib.hid (below_drewN hD.out _)⟩)
        case measure => simp [intOf]; omega
    · obtain rfl : k = n := by omega
      have e0 : Hid (R = true) := Lib.hid (by
        rw [HR.out, decide_eq_true_eq]
        refine List.ext_getElem? fun j => ?_
        by_cases hj : j < k
        · exact hT.out j hj
        · rw [List.getElem?_eq_none (by rw [HN.out]; omega), List.getElem?_eq_none (by rw [HM.out]; omega)])
      go_wp2_with fail
      go_ret
      exact ⟨by rw [e0.out]; rfl, hD.out⟩
end NetBz
end Go.Proofs.YtgbbpliihglijaaGreat
/- Ints of the plain package: equality of lists of numbers. No conditions. -/
namespace Go.Proofs.YtgbbpliihglijaaGreat
open Go Go.RowKit
namespace NetZ
open Kit LexM TermM TermI NetM NetN NetK NetA
set_option maxRecDepth 100000 in
set_option maxHeartbeats 3200000 in
theorem ints_any (A L : List Int) (ok ok' : Nat → Prop) (w : World) (v v' : Value) (ha : RowE KN ok w A v) (hl : RowE KN ok' w L v') (hk : ∀ b, ok b → b < w.heap.size) (hk' : ∀ b, ok' b → b < w.heap.size) :
    Calls Tryz.prog 20 #[v, v'] w fun e w' => e = .returned (.bool (decide (A = L))) ∧ Below w.heap.size w w' := by
  obtain ⟨p, c, rfl⟩ := ha.form
  obtain ⟨p', c', rfl⟩ := hl.form
  have hcap : A.length ≤ maxLen := by obtain ⟨_, h1, h2⟩ := ha.cap; omega
  unfold maxLen at hcap
  have CA : Hid (∀ j x, A[j]? = some x → ∀ w', Below w.heap.size w w' → ∃ g o, p = some ⟨g, o, none⟩ ∧ w'.cell? ⟨g, o + j, none⟩ = some (.int .i64 x)) := Lib.hid (fun j x hx w' q => by
    obtain ⟨g, o, e1, e2, _, e4⟩ := ha.at hx
    refine ⟨g, o, e1, (q.cell (p := ⟨g, _, none⟩) (hk g e2)).trans ?_⟩
    have := e4 0 _ rfl
    simpa [KN] using this)
  have CL : Hid (∀ j x, L[j]? = some x → ∀ w', Below w.heap.size w w' → ∃ g o, p' = some ⟨g, o, none⟩ ∧ w'.cell? ⟨g, o + j, none⟩ = some (.int .i64 x)) := Lib.hid (fun j x hx w' q => by
    obtain ⟨g, o, e1, e2, _, e4⟩ := hl.at hx
    refine ⟨g, o, e1, (q.cell (p := ⟨g, _, none⟩) (hk' g e2)).trans ?_⟩
    have := e4 0 _ rfl
    simpa [KN] using this)
  clear ha hl hk hk'
  obtain ⟨R, hR⟩ : ∃ R, R = decide (A = L) := ⟨_, rfl⟩
  have HR := Lib.hid hR
  rw [← hR]
  clear hR
  generalize hn : A.length = n at *
  have HN := Lib.hid hn
  generalize hm : L.length = m at *
  have HM := Lib.hid hm
  clear hn hm
  by_cases hnm : n = m
  rotate_left
  · have e0 : Hid (R = false) := Lib.hid (by rw [HR.out, decide_eq_false_iff_not]; exact fun h => hnm (by rw [← HN.out, h, HM.out]))
    have i1 : ((n : Int) != (m : Int)) = true := by simp; omega
    clear hnm
    go_enter Tryz.func20, Tryz.ntmps20
    go_wp2_with fail
    go_ret
    exact ⟨by rw [e0.out]; rfl, Below.refl _ _⟩
  subst hnm
  go_enter Tryz.func20, Tryz.ntmps20
  go_wp2_with fail
  go_loopw [13] (fun i wr => ∃ k : Nat, k ≤ n ∧ i = .int .i64 k ∧ Hid (∀ j, j < k → A[j]? = L[j]?) ∧ Hid (Below w.heap.size w wr)) (fun i _ => n - (intOf i).toNat)
  case atStart => exact ⟨0, Nat.zero_le _, rfl, Lib.hid (fun j hj => by omega), Lib.hid (Below.refl _ _)⟩
  case round =>
    obtain ⟨k, hk, rfl, hT, hD⟩ := hrel
    by_cases hlt : k < n
    · obtain ⟨x, hx⟩ : ∃ x, A[k]? = some x := ⟨A[k]'(by rw [HN.out]; exact hlt), by simp⟩
      obtain ⟨y, hy⟩ : ∃ y, L[k]? = some y := ⟨L[k]'(by rw [HM.out]; exact hlt), by simp⟩
      obtain ⟨g, o, rfl, c1⟩ := CA.out k x hx wr hD.out
      obtain ⟨g', o', rfl, c2⟩ := CL.out k y hy wr hD.out
      have j0 : (0 : Int) ≤ (k : Int) := by omega
      have j1 : (k : Int) < n := by omega
      have HX := Lib.hid hx
      have HY := Lib.hid hy
      clear hx hy
      by_cases hxy : x = y
      · have T2 : Hid (∀ j, j < k + 1 → A[j]? = L[j]?) := Lib.hid (fun j hj => by
          by_cases e : j = k
          · subst e
            rw [HX.out, HY.out, hxy]
          · exact hT.out j (by omega))
        have i1 : (x != y) = false := by simp [hxy]
        clear hxy HX HY
        go_upto_region 6 with fail
        go_quiet (fail)
        go_wp2_with fail
        go_roundw
        case rel => first | exact ⟨k + 1, by omega, by go_num, T2, Lib.hid (below_drewN hD.out _)⟩ | ((repeat (apply Exists.intro)); refine ⟨?_, rfl⟩; exact ⟨k + 1, by omega, by go_num, T2, Lib.hid (below_drewN hD.out _)⟩)
        case measure => simp [intOf]; omega
      · have e0 : Hid (R = false) := Lib.hid (by
          rw [HR.out, decide_eq_false_iff_not]
          intro h
          have := HX.out
          rw [h, HY.out] at this
          injection this with this
          exact hxy this.symm)
        have i1 : (x != y) = true := by simp [hxy]
        clear hxy HX HY
        go_upto_region 6 with fail
        go_quiet (fail)
        go_wp2_with fail
        go_ret
        exact ⟨by rw [e0.out]; rfl, below_drewN hD.out _⟩
    · obtain rfl : k = n := by omega
      have e0 : Hid (R = true) := Lib.hid (by
        rw [HR.out, decide_eq_true_eq]
        refine List.ext_getElem? fun j => ?_
        by_cases hj : j < k
        · exact hT.out j hj
        · rw [List.getElem?_eq_none (by rw [HN.out]; omega), List.getElem?_eq_none (by rw [HM.out]; omega)])
      go_wp2_with fail
      go_ret
      exact ⟨by rw [e0.out]; rfl, hD.out⟩
end NetZ
end Go.Proofs.YtgbbpliihglijaaGreat
