/- Texts laid together: Kit; LexM; TermM; TermI; TermN. Their own heads stand before each. -/
import Derived.Test.YtgbbpliihglijaaGreatRows
import Derived.WalkKit
import Derived.ProofKit
import Derived.OpenShut
import Derived.BigRegion
import Derived.Deep.QuietTactic
import Derived.BigQuiet
import Derived.Lib.Hide
import Derived.PlainAid
import Derived.Handy
import Derived.Below
import Derived.ChangeOld
import Derived.Carry
import Derived.Sort.Statements
import GoSem.Op.String
import Derived.Deep.Slices
import Derived.Deep.SlicePairs
/- Small facts used by every walk of this seat: a new block's cells behind a call, draws, and the last step of a law's proof (true came back, and nothing that was there has changed). No conditions. -/
namespace Go.Proofs.YtgbbpliihglijaaGreat
open Go Go.RowKit

namespace Kit
theorem ret_int {k : IntKind} {a b : Int} (h : a = b) : Ending.returned (.int k a) = Ending.returned (.int k b) := by rw [h]
theorem ret_bool {a b : Bool} (h : a = b) : Ending.returned (.bool a) = Ending.returned (.bool b) := by rw [h]
theorem ret_str {a b : ByteArray} (h : a = b) : Ending.returned (.string a) = Ending.returned (.string b) := by rw [h]
theorem below_alloc (w : World) (o : Obj) : Below w.heap.size w (w.alloc o) := (Below.refl _ _).alloc (Nat.le_refl _) o
theorem below_drewN {B : Nat} {a w : World} (h : Below B a w) : ∀ n, Below B a (w.drewN n)
  | 0 => h
  | n + 1 => (below_drewN h n).drew
theorem next1 {w w1 w2 : World} {o : Obj} (k1 : Below w.heap.size w w1) (k2 : Below (w1.alloc o).heap.size (w1.alloc o) w2) : Below w.heap.size w w2 :=
  k1.trans (((below_alloc w1 o).trans (k2.mono (by simp))).mono k1.size)
theorem lt1 {w1 w2 : World} {o : Obj} (k2 : Below (w1.alloc o).heap.size (w1.alloc o) w2) : w1.heap.size < w2.heap.size := by have := k2.size; simp at this; omega
theorem next0 {w w1 w2 : World} (k1 : Below w.heap.size w w1) (k2 : Below w1.heap.size w1 w2) : Below w.heap.size w w2 := k1.trans (k2.mono k1.size)
theorem bcell {W w1 : World} {B : Nat} (hb : Below B W w1) : (∀ b o, b < B → w1.cell? ⟨b, o, none⟩ = W.cell? ⟨b, o, none⟩) ∧ (∀ b o, b < B → w1.frozen? ⟨b, o, none⟩ = W.frozen? ⟨b, o, none⟩) :=
  ⟨fun b o h => hb.cell (p := ⟨b, o, none⟩) h, fun b o h => hb.frozen (p := ⟨b, o, none⟩) h⟩
theorem quiet_eq {P : Program} {f : FuncId} {args : Array Value} {w : World} {n : Nat} {v : Value}
    (h : Calls P f args (w.drewN n) fun e w' => e = .returned v ∧ w.drewN n = w') : Calls P f args (w.drewN n) fun e w'' => e = .returned v ∧ ∃ m, w'' = w.drewN m :=
  h.mono fun _ _ ⟨he, hm⟩ => ⟨he, n, hm.symm⟩

/-- Block g is the cells cs, none of them frozen. -/
def Has (w : World) (g : Nat) (cs : Array Value) : Prop := ∃ t, w.heap[g]? = some (.cells cs t (0, 0))
section
variable {w w' : World} {g : Nat} {cs : Array Value}
theorem Has.lt (h : Has w g cs) : g < w.heap.size := by
  obtain ⟨t, h⟩ := h
  rcases Nat.lt_or_ge g w.heap.size with hlt | hge
  · exact hlt
  · rw [Array.getElem?_eq_none hge] at h; cases h
theorem Has.cell (h : Has w g cs) (i : Nat) : w.cell? ⟨g, i, none⟩ = cs[i]? := by
  obtain ⟨t, h⟩ := h
  exact cell_of_row w g i cs t (0, 0) h
theorem Has.free (h : Has w g cs) (i : Nat) : w.frozen? ⟨g, i, none⟩ = false := by
  obtain ⟨t, h⟩ := h
  simp [World.frozen?, h]
theorem Has.new (w : World) (t : TypeId) (cs : Array Value) : Has (w.alloc (.cells cs t)) w.heap.size cs := ⟨t, heap_alloc_new w _⟩
theorem Has.alloc (h : Has w g cs) (o : Obj) : Has (w.alloc o) g cs := by
  have hl := h.lt
  obtain ⟨t, h⟩ := h
  exact ⟨t, by rw [Below.heap_alloc w o g hl, h]⟩
theorem Has.new1 (w : World) (o : Obj) (t : TypeId) (cs : Array Value) : Has ((w.alloc o).alloc (.cells cs t)) (w.heap.size + 1) cs := by
  have := Has.new (w.alloc o) t cs
  rwa [World.size_alloc] at this
theorem Has.new2 (w : World) (o p : Obj) (t : TypeId) (cs : Array Value) : Has (((w.alloc o).alloc p).alloc (.cells cs t)) (w.heap.size + 1 + 1) cs := by
  have := Has.new ((w.alloc o).alloc p) t cs
  rwa [World.size_alloc, World.size_alloc] at this
theorem Has.new3 (w : World) (o p q : Obj) (t : TypeId) (cs : Array Value) : Has ((((w.alloc o).alloc p).alloc q).alloc (.cells cs t)) (w.heap.size + 1 + 1 + 1) cs := by
  have := Has.new (((w.alloc o).alloc p).alloc q) t cs
  rwa [World.size_alloc, World.size_alloc, World.size_alloc] at this
theorem Has.drewN (h : Has w g cs) (n : Nat) : Has (w.drewN n) g cs := h
theorem Has.drew (h : Has w g cs) : Has w.drew g cs := h
theorem Has.below {B : Nat} (h : Has w g cs) (hb : Below B w w') (hg : g < B) : Has w' g cs := by
  obtain ⟨t, h⟩ := h
  exact ⟨t, (hb.block g hg).trans h⟩
theorem Has.far (h : Has w g cs) {p : Addr} (hp : g ≠ p.block) (u : Value) : Has (w.setCell p u) g cs := by
  obtain ⟨t, h⟩ := h
  exact ⟨t, (Below.heap_setCell w p u g hp).trans h⟩
theorem Has.set (h : Has w g cs) (i : Nat) (u : Value) : Has (w.setCell ⟨g, i, none⟩ u) g (cs.setIfInBounds i u) := by
  obtain ⟨t, h⟩ := h
  exact ⟨t, by simp [World.setCell, Array.getElem?_modify, h]⟩
theorem Has.put0 {a b : Value} (h : Has w g #[a, b]) (u _v : Value) : (w.setCell ⟨g, 0, none⟩ u).cell? ⟨g, 0, none⟩ = some u := (h.set 0 u).cell 0
theorem Has.put1 {a b : Value} (h : Has w g #[a, b]) (u v : Value) : ((w.setCell ⟨g, 0, none⟩ u).setCell ⟨g, 1, none⟩ v).cell? ⟨g, 1, none⟩ = some v := ((h.set 0 u).set 1 v).cell 1
theorem Has.step {o : Obj} (h : Has w g cs) (k : Below (w.alloc o).heap.size (w.alloc o) w') : Has w' g cs := (h.alloc o).below k (by have := h.lt; simp; omega)
theorem Has.step0 (h : Has w g cs) (k : Below w.heap.size w w') : Has w' g cs := h.below k h.lt
theorem Has.made {t : TypeId} (k : Below (w.alloc (.cells cs t)).heap.size (w.alloc (.cells cs t)) w') : Has w' w.heap.size cs := (Has.new w t cs).below k (by simp)
theorem Has.two {a b : Value} (h : Has w g #[a, b]) : w.cell? ⟨g, 0, none⟩ = some a ∧ w.cell? ⟨g, 1, none⟩ = some b ∧ w.frozen? ⟨g, 0, none⟩ = false ∧ w.frozen? ⟨g, 1, none⟩ = false ∧ g < w.heap.size :=
  ⟨h.cell 0, h.cell 1, h.free 0, h.free 1, h.lt⟩
end

section
variable {H : Type} {enc : TypeId × Value → H} {P : Program}
theorem args_stay (hl : laidOutB P = true) {W W' : World} (hb : Below W.heap.size W W') : ∀ (ts : List TypeId) (vs : List Value) (ds : List (DataW H)) (ps : List MemPlace),
    (∀ t ∈ ts, P.readableRec t = true ∧ t < P.types.size) → DataW.TrodAll enc P W 0 (fun _ => true) true ts vs ds ps → (∀ x ∈ ps, x.block < W.heap.size) →
    DataW.TrodAll enc P W' 0 (fun b => decide (b < W.heap.size)) true ts vs ds ps
  | [], [], [], _, _, h, _ => h
  | [], _ :: _, _, _, _, h, _ => h.elim
  | [], [], _ :: _, _, _, h, _ => h.elim
  | t :: ts, vs, ds, ps, hr, h, hp => by
    obtain ⟨v, vs', d, ds', p, q, rfl, rfl, rfl, hv, hr'⟩ := ChangeShapes.trodAll_cons h
    refine ⟨p, q, Below.trod hl (hr t (by simp)).1 (hr t (by simp)).2 hv hb (fun x hx => hp x (by simp [hx])), ?_, rfl⟩
    exact args_stay hl hb ts vs' ds' q (fun t' ht => hr t' (by simp [ht])) hr' (fun x hx => hp x (by simp [hx]))

/-- THE LAST STEP OF A LAW: true came back and nothing that was there has changed. -/
theorem law_post {f : Func} {s : ChangeSpec} {W W' : World} {args : Array Value} {ds gs : List (DataW H)} {before : List MemPlace} (tb : TypeId)
    (hl : laidOutB P = true) (hpar : ∀ t ∈ f.params.toList, P.readableRec t = true ∧ t < P.types.size) (hrt : f.resultTypes = #[tb]) (hb : P.underlying tb = some .bool)
    (hW : DataW.Whole enc P f.params.toList s.vars false W args.toList ds gs before) (hv0 : s.vars = [])
    (hs : (s.fn H (ds ++ gs)).results = [.lit (.bool true)] ∧ (s.fn H (ds ++ gs)).args = ds ∧ (s.fn H (ds ++ gs)).vars = [])
    (bel : Below W.heap.size W W') : s.post enc P f false true false false W args (.bool true) W' := by
  have hW' := hW
  obtain ⟨p, q, hA0, hV, hbef, hfz, hnd⟩ := hW
  have hlt := hW'.lt
  have hp : ∀ x ∈ p, x.block < W.heap.size := fun x hx => hlt x (by rw [hbef]; simp [hx])
  refine ⟨ds, gs, before, [], p, [], hW', ?_, ?_, ?_, bel.frame _, fun h => by cases h⟩
  · rw [hs.1, hrt]
    exact ChangeShapes.trodAll_mk1 (RowKit.shut_bool hb true)
  · rw [hs.2.1]
    exact args_stay hl bel _ _ _ _ hpar hA0 hp
  · rw [hs.2.2, hv0]
    exact rfl
end
end Kit
end Go.Proofs.YtgbbpliihglijaaGreat
/- Plain words of layers 1 and 4: bytes, names, numbers, variables, kinds of runs. No conditions. -/
namespace Go.Proofs.YtgbbpliihglijaaGreat
namespace LexM
def loB (n : Int) : Bool := decide (97 ≤ n) && decide (n ≤ 122)
def upB (n : Int) : Bool := decide (65 ≤ n) && decide (n ≤ 90)
def dgB (n : Int) : Bool := decide (48 ≤ n) && decide (n ≤ 57)
def blB (n : Int) : Bool := n == 32 || n == 9 || n == 10 || n == 13
def syB (n : Int) : Bool := n == 40 || n == 41 || n == 44 || n == 46
def ruB (n : Int) : Bool := loB n || upB n || dgB n || n == 45
def ncB (n : Int) : Bool := !(n == 10)
def nmB (n : Int) : Bool := loB n || dgB n || n == 45
def vrB (n : Int) : Bool := loB n || upB n || dgB n
def resB (l : List UInt8) : Bool := l == [105, 102] || l == [97, 110, 100] || l == [110, 111, 116]
def headB (p : Int → Bool) : List UInt8 → Bool
  | [] => false
  | b :: _ => p b.toNat
def allB (p : Int → Bool) (l : List UInt8) : Bool := l.all (fun b => p b.toNat)
def nameL (l : List UInt8) : Bool := decide (l.length ≤ 16) && headB loB l && !resB l && allB nmB l
def varL (l : List UInt8) : Bool := decide (l.length ≤ 16) && headB upB l && allB vrB l
def valL (l : List UInt8) : Int := l.foldl (fun n b => 10 * n + ((b.toNat : Int) - 48)) 0
def lead (l : List UInt8) : Bool := decide (1 < l.length) && headB (fun n => n == 48) l
def isNum (l : List UInt8) : Bool := decide (1 ≤ l.length) && decide (l.length ≤ 4) && !lead l && allB dgB l
def numV (l : List UInt8) : Int := if isNum l = true then valL l else 0
def kindL (l : List UInt8) : Int := if resB l = true then 5 else if nameL l = true then 1 else if isNum l = true then 2 else if varL l = true then 3 else 0
theorem allB_snoc (p : Int → Bool) (l : List UInt8) (b : UInt8) : allB p (l ++ [b]) = (allB p l && p b.toNat) := by simp [allB]
theorem valL_snoc (l : List UInt8) (b : UInt8) : valL (l ++ [b]) = 10 * valL l + ((b.toNat : Int) - 48) := by simp [valL]
theorem take_snoc (s : ByteArray) (k : Nat) (h : k < s.size) : s.data.toList.take (k + 1) = s.data.toList.take k ++ [s[k]] := by
  rw [List.take_succ_eq_append_getElem (by simpa using h)]; rfl
theorem allB_no (p : Int → Bool) (s : ByteArray) (k : Nat) (h : k < s.size) (hp : p s[k].toNat = false) : allB p s.data.toList = false := by
  unfold allB
  rw [List.all_eq_false]
  exact ⟨s[k], List.mem_iff_getElem.2 ⟨k, by simpa using h, rfl⟩, by simpa using hp⟩
theorem allB_all (p : Int → Bool) (s : ByteArray) (k : Nat) (h : s.size ≤ k) : allB p (s.data.toList.take k) = allB p s.data.toList := by
  rw [List.take_of_length_le (by simpa using h)]
theorem headB_eq (p : Int → Bool) (s : ByteArray) (h : 0 < s.size) : headB p s.data.toList = p s[0].toNat := by
  have hl : 0 < s.data.toList.length := by simpa using h
  have e : s.data.toList = s.data.toList[0] :: s.data.toList.drop 1 := by
    have := List.drop_eq_getElem_cons hl
    simpa using this
  rw [e]
  rfl
theorem len_eq (s : ByteArray) : s.data.toList.length = s.size := by simp
end LexM
end Go.Proofs.YtgbbpliihglijaaGreat
/- Terms as plain data: a tree of names; depth, size, leaves, validity, text, and the order of terms with its laws (total; 0 only for equal terms). No conditions. -/
namespace Go.Proofs.YtgbbpliihglijaaGreat
open Go
namespace TermM
open LexM
inductive Tm where
  | mk : ByteArray → List Tm → Tm
instance : Inhabited Tm := ⟨.mk ⟨#[]⟩ []⟩
def Tm.nm : Tm → ByteArray
  | .mk n _ => n
def Tm.args : Tm → List Tm
  | .mk _ l => l
theorem Tm.eta : ∀ t : Tm, Tm.mk t.nm t.args = t
  | .mk _ _ => rfl
theorem Tm.ind {P : Tm → Prop} (h : ∀ n l, (∀ x ∈ l, P x) → P (.mk n l)) (t : Tm) : P t :=
  Tm.rec (motive_1 := P) (motive_2 := fun l => ∀ x ∈ l, P x) (fun n l ih => h n l ih) (fun x hx => by simp at hx)
    (fun a l ha hl x hx => by rcases List.mem_cons.1 hx with rfl | hx; exact ha; exact hl x hx) t
mutual
def depthT : Tm → Nat
  | .mk _ l => depthL l + 1
def depthL : List Tm → Nat
  | [] => 0
  | t :: l => max (depthT t) (depthL l)
end
mutual
def sizeT : Tm → Nat
  | .mk _ l => sizeL l + 1
def sizeL : List Tm → Nat
  | [] => 0
  | t :: l => sizeT t + sizeL l
end
mutual
def leavesT : Tm → List ByteArray
  | .mk n l => if l.isEmpty then [n] else leavesL l
def leavesL : List Tm → List ByteArray
  | [] => []
  | t :: l => leavesT t ++ leavesL l
end
mutual
def textT : Tm → List UInt8
  | .mk n l => n.data.toList ++ if l.isEmpty then [] else 40 :: ((tailT l).drop 1 ++ [41])
def tailT : List Tm → List UInt8
  | [] => []
  | t :: l => 44 :: textT t ++ tailT l
end
theorem depthL_app : ∀ a b, depthL (a ++ b) = max (depthL a) (depthL b)
  | [], b => by simp [depthL]
  | t :: a, b => by simp [depthL, depthL_app a b, Nat.max_assoc]
theorem sizeL_app : ∀ a b, sizeL (a ++ b) = sizeL a + sizeL b
  | [], b => by simp [sizeL]
  | t :: a, b => by simp [sizeL, sizeL_app a b, Nat.add_assoc]
theorem leavesL_app : ∀ a b, leavesL (a ++ b) = leavesL a ++ leavesL b
  | [], b => by simp [leavesL]
  | t :: a, b => by simp [leavesL, leavesL_app a b]
theorem tailT_app : ∀ a b, tailT (a ++ b) = tailT a ++ tailT b
  | [], b => by simp [tailT]
  | t :: a, b => by simp [tailT, tailT_app a b]
theorem take_get {α : Type} (l : List α) (k : Nat) (x : α) (h : l[k]? = some x) : l.take (k + 1) = l.take k ++ [x] := by
  obtain ⟨hk, rfl⟩ := List.getElem?_eq_some_iff.1 h
  rw [List.take_succ_eq_append_getElem hk]
def nameB (n : ByteArray) : Bool := nameL n.data.toList
def varB (n : ByteArray) : Bool := varL n.data.toList
def numB (n : ByteArray) : Bool := isNum n.data.toList
def conB (n : ByteArray) : Bool := numB n || nameB n
/-- Valid with at most d levels; if g, without variables. -/
def validT (g : Bool) : Nat → Tm → Bool
  | 0, _ => false
  | d + 1, .mk n l => if l.isEmpty then conB n || (!g && varB n) else decide (l.length ≤ 4) && nameB n && l.all (validT g d)
/-! ### The order -/
def thn (a b : Int) : Int := if a = 0 then b else a
def sg (a b : Int) : Int := if a < b then -1 else if b < a then 1 else 0
def lexB : List UInt8 → List UInt8 → Int
  | [], [] => 0
  | [], _ :: _ => -1
  | _ :: _, [] => 1
  | a :: x, b :: y => thn (sg a.toNat b.toNat) (lexB x y)
def cls (n : ByteArray) (e : Bool) : Int := if e = false then 3 else if numB n = true then 0 else if varB n = true then 2 else 1
def keyC (n m : ByteArray) (e : Bool) (p q : Nat) : Int := if cls n e = 0 then sg (valL n.data.toList) (valL m.data.toList) else thn (sg p q) (lexB n.data.toList m.data.toList)
mutual
def cmpT : Tm → Tm → Int
  | .mk n l, .mk m r => thn (sg (cls n l.isEmpty) (cls m r.isEmpty)) (thn (keyC n m l.isEmpty l.length r.length) (cmpL l r))
def cmpL : List Tm → List Tm → Int
  | [], [] => 0
  | [], _ :: _ => -1
  | _ :: _, [] => 1
  | a :: l, b :: r => thn (cmpT a b) (cmpL l r)
end
def Tri (x y z : Int) : Prop := (x ≤ 0 → y ≤ 0 → z ≤ 0) ∧ (x < 0 → y ≤ 0 → z < 0) ∧ (x ≤ 0 → y < 0 → z < 0) ∧ (0 ≤ x → 0 ≤ y → 0 ≤ z) ∧ (0 < x → 0 ≤ y → 0 < z) ∧ (0 ≤ x → 0 < y → 0 < z)
theorem tri_thn {x y z x' y' z' : Int} (h : Tri x y z) (h' : x = 0 → y = 0 → z = 0 → Tri x' y' z') : Tri (thn x x') (thn y y') (thn z z') := by
  obtain ⟨h1, h2, h3, h4, h5, h6⟩ := h
  unfold thn
  by_cases hx : x = 0 <;> by_cases hy : y = 0
  · have hz : z = 0 := by omega
    rw [if_pos hx, if_pos hy, if_pos hz]
    exact h' hx hy hz
  · have hz : z ≠ 0 := by omega
    rw [if_pos hx, if_neg hy, if_neg hz]
    unfold Tri
    omega
  · have hz : z ≠ 0 := by omega
    rw [if_neg hx, if_pos hy, if_neg hz]
    unfold Tri
    omega
  · rw [if_neg hx, if_neg hy]
    unfold Tri
    refine ⟨?_, ?_, ?_, ?_, ?_, ?_⟩ <;> intro a b <;> split <;> omega
theorem tri_sg (a b c : Int) : Tri (sg a b) (sg b c) (sg a c) := by
  unfold Tri sg
  refine ⟨?_, ?_, ?_, ?_, ?_, ?_⟩ <;> (repeat' split) <;> omega
theorem thn_neg (a b : Int) : thn (-a) (-b) = -thn a b := by unfold thn; split <;> split <;> omega
theorem sg_neg (a b : Int) : sg b a = -sg a b := by unfold sg; repeat' split
                                                    all_goals omega
theorem sg_zero (a b : Int) : sg a b = 0 ↔ a = b := by unfold sg; repeat' split
                                                       all_goals omega
theorem thn_zero (a b : Int) : thn a b = 0 ↔ a = 0 ∧ b = 0 := by unfold thn; split <;> simp_all
theorem thn_assoc (a b c : Int) : thn (thn a b) c = thn a (thn b c) := by unfold thn; repeat' split
                                                                          all_goals simp_all
theorem tri_lex : ∀ x y z : List UInt8, Tri (lexB x y) (lexB y z) (lexB x z)
  | [], [], [] => by simp [lexB, Tri]
  | [], [], _ :: _ => by simp [lexB, Tri]
  | [], _ :: _, [] => by simp [lexB, Tri]
  | [], _ :: _, _ :: _ => by simp [lexB, Tri]
  | _ :: _, [], [] => by simp [lexB, Tri]
  | _ :: _, [], _ :: _ => by simp [lexB, Tri]
  | _ :: _, _ :: _, [] => by simp [lexB, Tri]
  | a :: x, b :: y, c :: z => by simp only [lexB]; exact tri_thn (tri_sg _ _ _) (fun _ _ _ => tri_lex x y z)
theorem lex_neg : ∀ x y : List UInt8, lexB y x = -lexB x y
  | [], [] => by simp [lexB]
  | [], _ :: _ => by simp [lexB]
  | _ :: _, [] => by simp [lexB]
  | a :: x, b :: y => by simp only [lexB]; rw [sg_neg, lex_neg x y, thn_neg]
theorem lex_zero : ∀ x y : List UInt8, lexB x y = 0 ↔ x = y
  | [], [] => by simp [lexB]
  | [], _ :: _ => by simp [lexB]
  | _ :: _, [] => by simp [lexB]
  | a :: x, b :: y => by
    simp only [lexB]
    rw [thn_zero, sg_zero, lex_zero x y]
    constructor
    · rintro ⟨h, rfl⟩
      have : a = b := UInt8.toNat_inj.1 (by omega)
      rw [this]
    · intro h
      injection h with h1 h2
      subst h1 h2
      exact ⟨rfl, rfl⟩
theorem lex_less : ∀ x y : List UInt8, lexB x y = if Op.bytesLess x y then -1 else if Op.bytesLess y x then 1 else 0
  | [], [] => by simp [lexB, Op.bytesLess]
  | [], _ :: _ => by simp [lexB, Op.bytesLess]
  | _ :: _, [] => by simp [lexB, Op.bytesLess]
  | a :: x, b :: y => by
    have ih := lex_less x y
    have e1 : ∀ a b : UInt8, (a < b) ↔ a.toNat < b.toNat := fun a b => UInt8.lt_iff_toNat_lt
    have e2 : (a == b) = decide (a.toNat = b.toNat) := by rw [Bool.eq_iff_iff]; simp [UInt8.toNat_inj]
    have e3 : (b == a) = decide (b.toNat = a.toNat) := by rw [Bool.eq_iff_iff]; simp [UInt8.toNat_inj]
    simp only [lexB, Op.bytesLess, e2, e3, e1]
    unfold thn sg
    rcases Nat.lt_trichotomy a.toNat b.toNat with h | h | h
    · rw [if_pos (show ((a.toNat : Int)) < b.toNat by omega)]
      simp [h]
    · rw [if_neg (show ¬ ((a.toNat : Int)) < b.toNat by omega), if_neg (show ¬ ((b.toNat : Int)) < a.toNat by omega), ih]
      simp [h]
    · rw [if_neg (show ¬ ((a.toNat : Int)) < b.toNat by omega), if_pos (show ((b.toNat : Int)) < a.toNat by omega)]
      have h1 : ¬ a.toNat < b.toNat := by omega
      have h2 : ¬ a.toNat = b.toNat := by omega
      simp [h, h1, h2]
theorem cls_emp (n : ByteArray) (e : Bool) (h : cls n e = 0) : e = true ∧ numB n = true := by
  unfold cls at h
  cases e
  · simp at h
  · cases hn : numB n
    · simp [hn] at h; split at h <;> omega
    · exact ⟨rfl, rfl⟩
theorem tri_cmp (a : Tm) : ∀ b c, Tri (cmpT a b) (cmpT b c) (cmpT a c) := by
  induction a using Tm.ind with
  | h n l ih =>
    have hL : ∀ r s, Tri (cmpL l r) (cmpL r s) (cmpL l s) := by
      induction l with
      | nil =>
        intro r s
        cases r <;> cases s <;> simp [cmpL, Tri]
      | cons a l ihl =>
        intro r s
        cases r with
        | nil => cases s <;> simp [cmpL, Tri]
        | cons b r =>
          cases s with
          | nil => simp [cmpL, Tri]
          | cons c s =>
            simp only [cmpL]
            exact tri_thn (ih a (by simp) b c) (fun _ _ _ => ihl (fun x hx => ih x (by simp [hx])) r s)
    rintro ⟨m, r⟩ ⟨k, s⟩
    simp only [cmpT]
    refine tri_thn (tri_sg _ _ _) (fun h1 h2 _ => tri_thn ?_ (fun _ _ _ => hL r s))
    rw [sg_zero] at h1 h2
    unfold keyC
    by_cases h0 : cls n l.isEmpty = 0
    · rw [if_pos h0, if_pos (by omega), if_pos h0]
      exact tri_sg _ _ _
    · rw [if_neg h0, if_neg (by omega), if_neg h0]
      exact tri_thn (tri_sg _ _ _) (fun _ _ _ => tri_lex _ _ _)
theorem cmp_neg (a : Tm) : ∀ b, cmpT b a = -cmpT a b := by
  induction a using Tm.ind with
  | h n l ih =>
    have hL : ∀ r, cmpL r l = -cmpL l r := by
      induction l with
      | nil =>
        intro r
        cases r <;> simp [cmpL]
      | cons a l ihl =>
        intro r
        cases r with
        | nil => simp [cmpL]
        | cons b r =>
          simp only [cmpL]
          rw [ih a (by simp) b, ihl (fun x hx => ih x (by simp [hx])) r, thn_neg]
    rintro ⟨m, r⟩
    simp only [cmpT]
    rw [hL r]
    by_cases hc : cls n l.isEmpty = cls m r.isEmpty
    · have hk : keyC m n r.isEmpty r.length l.length = -keyC n m l.isEmpty l.length r.length := by
        unfold keyC
        rw [← hc]
        split
        · rw [sg_neg]
        · rw [sg_neg (l.length : Int) r.length, lex_neg, thn_neg]
      rw [hk, thn_neg, sg_neg, thn_neg]
    · have h1 : sg (cls n l.isEmpty) (cls m r.isEmpty) ≠ 0 := by rw [Ne, sg_zero]; exact hc
      have h2 := sg_neg (cls n l.isEmpty) (cls m r.isEmpty)
      unfold thn
      rw [if_neg h1, if_neg (by omega), h2]
theorem digits_inj (l m : List UInt8) (hl : isNum l = true) (hm : isNum m = true) (h : valL l = valL m) : l = m := by
  have key : ∀ l : List UInt8, isNum l = true → (∃ a : UInt8, l = [a] ∧ 48 ≤ a.toNat ∧ a.toNat ≤ 57) ∨ (∃ a b : UInt8, l = [a, b] ∧ 49 ≤ a.toNat ∧ a.toNat ≤ 57 ∧ 48 ≤ b.toNat ∧ b.toNat ≤ 57) ∨
      (∃ a b c : UInt8, l = [a, b, c] ∧ 49 ≤ a.toNat ∧ a.toNat ≤ 57 ∧ 48 ≤ b.toNat ∧ b.toNat ≤ 57 ∧ 48 ≤ c.toNat ∧ c.toNat ≤ 57) ∨
      (∃ a b c d : UInt8, l = [a, b, c, d] ∧ 49 ≤ a.toNat ∧ a.toNat ≤ 57 ∧ 48 ≤ b.toNat ∧ b.toNat ≤ 57 ∧ 48 ≤ c.toNat ∧ c.toNat ≤ 57 ∧ 48 ≤ d.toNat ∧ d.toNat ≤ 57) := by
    intro l h
    unfold isNum lead at h
    match l with
    | [] => simp at h
    | [a] => simp [allB, dgB, headB] at h; exact Or.inl ⟨a, rfl, by omega, by omega⟩
    | [a, b] => simp [allB, dgB, headB] at h; exact Or.inr (Or.inl ⟨a, b, rfl, by omega, by omega, by omega, by omega⟩)
    | [a, b, c] => simp [allB, dgB, headB] at h; exact Or.inr (Or.inr (Or.inl ⟨a, b, c, rfl, by omega, by omega, by omega, by omega, by omega, by omega⟩))
    | [a, b, c, d] => simp [allB, dgB, headB] at h; exact Or.inr (Or.inr (Or.inr ⟨a, b, c, d, rfl, by omega, by omega, by omega, by omega, by omega, by omega, by omega, by omega⟩))
    | a :: b :: c :: d :: e :: r => simp at h
  have inj : ∀ a b : UInt8, a.toNat = b.toNat → a = b := fun a b h => UInt8.toNat_inj.1 h
  rcases key l hl with ⟨a, rfl, _, _⟩ | ⟨a, b, rfl, _, _, _, _⟩ | ⟨a, b, c, rfl, _, _, _, _, _, _⟩ | ⟨a, b, c, d, rfl, _, _, _, _, _, _, _, _⟩ <;>
  rcases key m hm with ⟨a', rfl, _, _⟩ | ⟨a', b', rfl, _, _, _, _⟩ | ⟨a', b', c', rfl, _, _, _, _, _, _⟩ | ⟨a', b', c', d', rfl, _, _, _, _, _, _, _, _⟩ <;>
  simp [valL] at h <;> first | omega | (rw [inj a a' (by omega), inj b b' (by omega), inj c c' (by omega), inj d d' (by omega)]) | (rw [inj a a' (by omega), inj b b' (by omega), inj c c' (by omega)]) | (rw [inj a a' (by omega), inj b b' (by omega)]) | (rw [inj a a' (by omega)])
theorem bytes_inj {a b : ByteArray} (h : a.data.toList = b.data.toList) : a = b := by
  cases a; cases b; simp at h; rw [h]
theorem cmp_zero (a : Tm) : ∀ b, cmpT a b = 0 ↔ a = b := by
  induction a using Tm.ind with
  | h n l ih =>
    have hL : ∀ r, cmpL l r = 0 ↔ l = r := by
      induction l with
      | nil =>
        intro r
        cases r <;> simp [cmpL]
      | cons a l ihl =>
        intro r
        cases r with
        | nil => simp [cmpL]
        | cons b r =>
          simp only [cmpL]
          rw [thn_zero, ih a (by simp) b, ihl (fun x hx => ih x (by simp [hx])) r]
          simp
    rintro ⟨m, r⟩
    simp only [cmpT]
    rw [thn_zero, thn_zero, hL r, sg_zero]
    constructor
    · rintro ⟨h1, h2, rfl⟩
      unfold keyC at h2
      by_cases h0 : cls n l.isEmpty = 0
      · rw [if_pos h0, sg_zero] at h2
        rw [bytes_inj (digits_inj _ _ (cls_emp _ _ h0).2 (cls_emp _ _ (h1.symm.trans h0)).2 h2)]
      · rw [if_neg h0, thn_zero, lex_zero] at h2
        rw [bytes_inj h2.2]
    · intro h
      injection h with h1 h2
      subst h1 h2
      refine ⟨rfl, ?_, rfl⟩
      unfold keyC
      split
      · rw [sg_zero]
      · rw [thn_zero, lex_zero, sg_zero]; exact ⟨rfl, rfl⟩
theorem sg_rng (a b : Int) : -1 ≤ sg a b ∧ sg a b ≤ 1 := by unfold sg; repeat' split
                                                            all_goals omega
theorem thn_rng {a b : Int} (ha : -1 ≤ a ∧ a ≤ 1) (hb : -1 ≤ b ∧ b ≤ 1) : -1 ≤ thn a b ∧ thn a b ≤ 1 := by unfold thn; split <;> omega
theorem lex_rng : ∀ x y : List UInt8, -1 ≤ lexB x y ∧ lexB x y ≤ 1
  | [], [] => by simp [lexB]
  | [], _ :: _ => by simp [lexB]
  | _ :: _, [] => by simp [lexB]
  | a :: x, b :: y => by simp only [lexB]; exact thn_rng (sg_rng _ _) (lex_rng x y)
theorem cmp_rng (a : Tm) : ∀ b, -1 ≤ cmpT a b ∧ cmpT a b ≤ 1 := by
  induction a using Tm.ind with
  | h n l ih =>
    have hL : ∀ r, -1 ≤ cmpL l r ∧ cmpL l r ≤ 1 := by
      induction l with
      | nil =>
        intro r
        cases r <;> simp [cmpL]
      | cons a l ihl =>
        intro r
        cases r with
        | nil => simp [cmpL]
        | cons b r =>
          simp only [cmpL]
          exact thn_rng (ih a (by simp) b) (ihl (fun x hx => ih x (by simp [hx])) r)
    rintro ⟨m, r⟩
    simp only [cmpT]
    refine thn_rng (sg_rng _ _) (thn_rng ?_ (hL r))
    unfold keyC
    split
    · exact sg_rng _ _
    · exact thn_rng (sg_rng _ _) (lex_rng _ _)
end TermM
end Go.Proofs.YtgbbpliihglijaaGreat
/- Where terms lie in memory: a slice value that holds a list of terms, in blocks of a kind; from world to world; and how terms that come in are opened. No conditions. -/
namespace Go.Proofs.YtgbbpliihglijaaGreat
open Go Go.RowKit Go.ChangeShapes Go.Deep
namespace TermI
open LexM TermM Kit
/-- The slice value holds the terms of the list; all their cells lie in blocks of the kind ok. -/
inductive SlIn (ok : Nat → Prop) (w : World) : List Tm → Value → Prop
  | mk (p : Option Addr) (c : Nat) (l : List Tm) (V : Nat → Value) (b o : Nat) (hp : l ≠ [] → p = some ⟨b, o, none⟩ ∧ ok b) (hn : p = none → c = 0) (hc : l.length ≤ c) (hm : c ≤ maxLen)
    (h1 : ∀ i t, l[i]? = some t → w.cell? ⟨b, o + i * 2, none⟩ = some (.string t.nm) ∧ w.cell? ⟨b, o + i * 2 + 1, none⟩ = some (V i) ∧ t.nm.size ≤ maxLen)
    (h2 : ∀ i t, l[i]? = some t → SlIn ok w t.args (V i)) : SlIn ok w l (.slice p l.length c)
section
variable {ok ok' : Nat → Prop} {w w' : World} {l : List Tm} {v : Value}
theorem ne_of_get {i : Nat} {t : Tm} (h : l[i]? = some t) : l ≠ [] := by
  intro e; subst e; simp at h
theorem SlIn.frame (h : SlIn ok w l v) (hf : ∀ b o, ok b → w'.cell? ⟨b, o, none⟩ = w.cell? ⟨b, o, none⟩) : SlIn ok w' l v := by
  induction h with
  | mk p c l V b o hp hn hc hm h1 h2 ih =>
    refine .mk p c l V b o hp hn hc hm (fun i t ht => ?_) ih
    have hb := (hp (ne_of_get ht)).2
    rw [hf _ _ hb, hf _ _ hb]
    exact h1 i t ht
theorem SlIn.weaken (h : SlIn ok w l v) (hk : ∀ b, ok b → ok' b) : SlIn ok' w l v := by
  induction h with
  | mk p c l V b o hp hn hc hm h1 h2 ih => exact .mk p c l V b o (fun h => ⟨(hp h).1, hk _ (hp h).2⟩) hn hc hm h1 ih
theorem SlIn.deep {B B' : Nat} (h : SlIn (· < B) w l v) (hb : Below B' w w') (hB : B ≤ B') : SlIn (· < B) w' l v :=
  h.frame fun _ _ hlt => hb.cell (p := ⟨_, _, none⟩) (Nat.lt_of_lt_of_le hlt hB)
theorem SlIn.none (ok : Nat → Prop) (w : World) : SlIn ok w [] (.slice .none 0 0) :=
  .mk .none 0 [] (fun _ => undef) 0 0 (fun h => absurd rfl h) (fun _ => rfl) (Nat.le_refl _) (Nat.zero_le _) (fun i t h => by simp at h) (fun i t h => by simp at h)
end
theorem SlIn.form {ok : Nat → Prop} {w : World} {l : List Tm} {v : Value} (h : SlIn ok w l v) : ∃ p c, v = .slice p l.length c := by
  cases h with
  | mk p c l V b o hp hn hc hm h1 h2 => exact ⟨p, c, rfl⟩
theorem cellsT : Tryz.prog.cellsOf 58 = 2 := by kernel_rfl
theorem under : ∃ f0 f1 : Field, Tryz.prog.underlying 58 = some (.struct #[f0, f1]) ∧ f0.offset = 0 ∧ f1.offset = 1 ∧ f0.type = 9 ∧ f1.type = 23 := ⟨_, _, Tryz.underlying58, rfl, rfl, rfl, rfl⟩
theorem cellsL : Tryz.prog.cellsOf 23 = 1 := by kernel_rfl
theorem cellsS : Tryz.prog.cellsOf 9 = 1 := by kernel_rfl
theorem two_of (l : List Value) (h : l.length = 2) : ∃ a b, l = [a, b] := by
  match l, h with
  | [a, b], _ => exact ⟨a, b, rfl⟩
/-- Two cells that read as a term. -/
theorem struct_in {H : Type} {enc : TypeId × Value → H} {W : World} {base : Nat} {sp : Nat → Bool} {held : Bool} {n : Nat} {cs : List Value} {x : DataW H × List MemPlace}
    (h : DataW.trod enc Tryz.prog W base sp held n 58 cs = some x) :
    ∃ (s : ByteArray) (v : Value) (k : Nat) (y : DataW H × List MemPlace), cs = [.string s, v] ∧ k < n ∧ s.size ≤ maxLen ∧ DataW.trod enc Tryz.prog W base sp held k 23 [v] = some y ∧ x.1 = .agg [.lit (.string s.data.toList), y.1] := by
  obtain ⟨f0, f1, hu, o0, o1, y0, y1⟩ := under
  obtain ⟨xs, k, hk, hxy, hcl, hxl, hf⟩ := DataW.trod_struct hu h
  rw [cellsT] at hcl
  obtain ⟨v0, v1, rfl⟩ := two_of cs hcl
  match xs, hxl with
  | [x0, x1], _ =>
    have g0 := hf 0 f0 rfl
    have g1 := hf 1 f1 rfl
    simp [o0, o1, y0, y1, cellsL, cellsS] at g0 g1
    obtain ⟨s, q1, q2, hs⟩ := DataW.trod_string Tryz.underlying9 g0
    simp at q1
    subst q1 q2 hxy
    exact ⟨s, v1, k, x1, rfl, by omega, hs, g1, rfl⟩
theorem addr_add (b o n : Nat) : (⟨b, o, none⟩ : Addr).add n = ⟨b, o + n, none⟩ := by unfold Addr.add; split <;> simp_all
theorem gather {α : Type} {m : Nat} {p : Nat → α → Prop} (h : ∀ i, i < m → ∃ x, p i x) : ∃ l : List α, l.length = m ∧ ∀ i x, l[i]? = some x → p i x := by
  induction m with
  | zero => exact ⟨[], rfl, fun i x h => by simp at h⟩
  | succ m ih =>
    obtain ⟨l, hl, hp⟩ := ih (fun i hi => h i (by omega))
    obtain ⟨x, hx⟩ := h m (by omega)
    refine ⟨l ++ [x], by simp [hl], fun i y hy => ?_⟩
    by_cases c : i < m
    · rw [List.getElem?_append_left (by omega)] at hy
      exact hp i y hy
    · have e : i = m := by
        have := (List.getElem?_eq_some_iff.1 hy).1
        simp [hl] at this
        omega
      subst e
      rw [List.getElem?_append_right (by omega), hl, Nat.sub_self] at hy
      simp at hy
      subst hy
      exact hx
/-- A slice value that reads as a slice of terms. -/
theorem slice_in {H : Type} {enc : TypeId × Value → H} {W : World} {base : Nat} {sp : Nat → Bool} {held : Bool} : ∀ (n : Nat) (cs : List Value) (x : DataW H × List MemPlace),
    DataW.trod enc Tryz.prog W base sp held n 23 cs = some x → ∃ (l : List Tm) (v : Value), cs = [v] ∧ SlIn (· < W.heap.size) W l v := by
  intro n
  induction n using Nat.strongRecOn with
  | ind n ih =>
    intro cs x h
    rcases DataW.trod_slice Tryz.underlying23 h with ⟨rfl, rfl⟩ | ⟨a, len, cap, elems, rest, m, hn, rfl, rfl, _, hle, hm, hlen, hel, _⟩
    · exact ⟨[], _, rfl, SlIn.none _ _⟩
    · have each : ∀ i, i < len → ∃ tv : Tm × Value, W.cell? (a.add (i * 2)) = some (.string tv.1.nm) ∧ W.cell? (a.add (i * 2 + 1)) = some tv.2 ∧ tv.1.nm.size ≤ maxLen ∧ SlIn (· < W.heap.size) W tv.1.args tv.2 := by
        intro i hi
        have he := hel i hi
        rw [List.getElem?_eq_getElem (by omega)] at he
        obtain ⟨cs', h1, h2⟩ := Option.bind_eq_some_iff.1 he
        rw [cellsT] at h1
        obtain ⟨_, hl2, hcell⟩ := World.cells?_some h1
        obtain ⟨s, v, k, y, rfl, hk, hs, hv, _⟩ := struct_in h2
        obtain ⟨l, v', e, hin⟩ := ih k (by omega) _ _ hv
        injection e with e _
        subst e
        have e0 := hcell 0 (by omega)
        have e1 := hcell 1 (by omega)
        rw [add_add] at e0 e1
        exact ⟨(.mk s l, v), by simpa [Tm.nm] using e0, by simpa using e1, hs, hin⟩
      obtain ⟨tvs, htl, hall⟩ := gather each
      obtain ⟨b, off, spot⟩ := a
      refine ⟨tvs.map (·.1), .slice (some ⟨b, off, spot⟩) len cap, rfl, ?_⟩
      have hsp : tvs ≠ [] → spot = none ∧ b < W.heap.size := by
        intro hne
        obtain ⟨tv, hg⟩ : ∃ tv, tvs[0]? = some tv := by cases tvs with
          | nil => exact absurd rfl hne
          | cons a r => exact ⟨a, rfl⟩
        have h0 := (hall 0 tv hg).1
        have h2 : spot = none := by simpa [Addr.add] using World.cell?_spot h0
        subst h2
        exact ⟨rfl, by simpa [Addr.add] using block_lt_of_cell h0⟩
      have hml : (tvs.map (·.1)).length = len := by simp [htl]
      rw [← hml]
      have key : ∀ (i : Nat) (t : Tm), (tvs.map (·.1))[i]? = some t → ∃ tv : Tm × Value, tvs[i]? = some tv ∧ tv.1 = t := by
        intro i t ht
        rw [List.getElem?_map] at ht
        obtain ⟨tv, h1, h2⟩ := Option.map_eq_some_iff.1 ht
        exact ⟨tv, h1, h2⟩
      refine .mk _ cap _ (fun i => (tvs.getD i (default, undef)).2) b off (fun hne => ?_) (fun h => by cases h) (by omega) hm (fun i t ht => ?_) (fun i t ht => ?_)
      · obtain ⟨rfl, h2⟩ := hsp (by intro e; subst e; exact hne rfl)
        exact ⟨rfl, h2⟩
      · obtain ⟨tv, hg, rfl⟩ := key i t ht
        obtain ⟨h1, h2, h3, _⟩ := hall i tv hg
        obtain ⟨rfl, _⟩ := hsp (by intro e; subst e; simp at hg)
        rw [addr_add] at h1 h2
        exact ⟨h1, by simpa [List.getD, hg, Nat.add_assoc] using h2, h3⟩
      · obtain ⟨tv, hg, rfl⟩ := key i t ht
        have := (hall i tv hg).2.2.2
        simpa [List.getD, hg] using this
set_option maxRecDepth 100000 in
theorem open_terms {H : Type} {enc : TypeId × Value → H} {W : World} {b0 : Nat} {base : Nat} {sp : Nat → Bool} {held : Bool} {v : Value} {d : DataW H} {p : List MemPlace}
    (hv : Value.okWide Tryz.prog W .any b0 23 v) (h : DataW.Trod enc Tryz.prog W base sp held 23 v d p) : ∃ l, SlIn (· < W.heap.size) W l v := by
  obtain ⟨a0, m0, c0, rfl⟩ := Go.WideShapes.okWide_slice Tryz.underlying23 hv
  obtain ⟨fuel, hf⟩ := h
  obtain ⟨l, v, e, hin⟩ := slice_in _ _ _ hf
  simp [Value.cells] at e
  subst e
  exact ⟨l, hin⟩
set_option maxRecDepth 100000 in
theorem open_term {H : Type} {enc : TypeId × Value → H} {W : World} {b0 : Nat} {base : Nat} {sp : Nat → Bool} {held : Bool} {v : Value} {d : DataW H} {p : List MemPlace}
    (hv : Value.okWide Tryz.prog W .any b0 58 v) (h : DataW.Trod enc Tryz.prog W base sp held 58 v d p) : ∃ (t : Tm) (sv : Value), v = .agg #[.string t.nm, sv] ∧ t.nm.size ≤ maxLen ∧ SlIn (· < W.heap.size) W t.args sv := by
  obtain ⟨cs, rfl, hsz⟩ := WideShapes.okWide_struct under.choose_spec.choose_spec.1 hv
  obtain ⟨fuel, hf⟩ := h
  obtain ⟨s, v, k, y, e, _, hs, hv, _⟩ := struct_in hf
  obtain ⟨l, v', e', hin⟩ := slice_in _ _ _ hv
  injection e' with e' _
  subst e'
  simp [Value.cells] at e
  obtain rfl : cs = #[.string s, v] := Array.ext' e
  exact ⟨.mk s l, v, rfl, hs, hin⟩
/-- Behind a call that makes memory: what was there is as it was; draws only grow. -/
def Gr (w w' : World) : Prop := Below w.heap.size w w' ∧ w.drawn ≤ w'.drawn
theorem Gr.refl (w : World) : Gr w w := ⟨Below.refl _ _, Nat.le_refl _⟩
theorem Gr.trans {a b c : World} (h : Gr a b) (k : Gr b c) : Gr a c := ⟨next0 h.1 k.1, Nat.le_trans h.2 k.2⟩
theorem Gr.alloc (w : World) (o : Obj) : Gr w (w.alloc o) := ⟨below_alloc w o, Nat.le_refl _⟩
theorem Gr.drew (w : World) : Gr w w.drew := ⟨(Below.refl _ _).drew, Nat.le_succ _⟩
theorem Gr.drewN (w : World) (n : Nat) : Gr w (w.drewN n) := ⟨below_drewN (Below.refl _ _) n, Nat.le_add_right _ _⟩
theorem Gr.more {a b : World} (h : Gr a b) (o : Obj) : Gr a (b.alloc o) := h.trans (Gr.alloc b o)
theorem Gr.size {a b : World} (h : Gr a b) : a.heap.size ≤ b.heap.size := h.1.size
theorem Gr.cell {a b : World} (h : Gr a b) {g o : Nat} (hg : g < a.heap.size) : b.cell? ⟨g, o, none⟩ = a.cell? ⟨g, o, none⟩ := h.1.cell (p := ⟨g, o, none⟩) hg
theorem Gr.put {a b : World} (h : Gr a b) {p : Addr} (hp : a.heap.size ≤ p.block) (u : Value) : Gr a (b.setCell p u) := ⟨h.1.setCell hp u, h.2⟩
theorem Gr.has {a b : World} (h : Gr a b) {g : Nat} {cs : Array Value} (k : Has a g cs) : Has b g cs := k.step0 h.1
theorem SlIn.gr {B : Nat} {w w' : World} {l : List Tm} {v : Value} (h : SlIn (· < B) w l v) (g : Gr w w') (hB : B ≤ w.heap.size) : SlIn (· < B) w' l v := h.deep g.1 hB
/-- The terms of a list, two cells each, from the address on. -/
def Row (B : Nat) (w : World) (l : List Tm) (p : Option Addr) : Prop := ∀ k, k < l.length → ∃ t b o q d, l[k]? = some t ∧ p = some ⟨b, o, none⟩ ∧ b < B ∧ w.cell? ⟨b, o + k * 2, none⟩ = some (.string t.nm) ∧
  w.cell? ⟨b, o + k * 2 + 1, none⟩ = some (.slice q t.args.length d) ∧ SlIn (· < B) w t.args (.slice q t.args.length d) ∧ t.nm.size ≤ maxLen
theorem SlIn.row {B : Nat} {w : World} {l : List Tm} {v : Value} (h : SlIn (· < B) w l v) : ∃ p c, v = .slice p l.length c ∧ (p = .none → c = 0) ∧ l.length ≤ c ∧ c ≤ maxLen ∧ Row B w l p := by
  cases h with
  | mk p c l V b o hp hn hc hm h1 h2 =>
    refine ⟨p, c, rfl, hn, hc, hm, fun k hk => ?_⟩
    obtain ⟨t, ht⟩ : ∃ t, l[k]? = some t := ⟨l[k], by simp [hk]⟩
    obtain ⟨q1, q2⟩ := hp (ne_of_get ht)
    obtain ⟨a1, a2, a3⟩ := h1 k t ht
    have a4 := h2 k t ht
    obtain ⟨q, d, hv⟩ := a4.form
    rw [hv] at a2 a4
    exact ⟨t, b, o, q, d, ht, q1, q2, a1, a2, a4, a3⟩
theorem Row.gr {B : Nat} {w w' : World} {l : List Tm} {p : Option Addr} (h : Row B w l p) (g : Gr w w') (hB : B ≤ w.heap.size) : Row B w' l p := fun k hk => by
  obtain ⟨t, b, o, q, d, h1, h2, h3, h4, h5, h6, h7⟩ := h k hk
  exact ⟨t, b, o, q, d, h1, h2, h3, (g.cell (Nat.lt_of_lt_of_le h3 hB)).trans h4, (g.cell (Nat.lt_of_lt_of_le h3 hB)).trans h5, h6.gr g hB, h7⟩
end TermI
end Go.Proofs.YtgbbpliihglijaaGreat
/- Depth and Size of terms, of the code and of the reference. Condition: at most a million parts. -/
namespace Go.Proofs.YtgbbpliihglijaaGreat
open Go Go.RowKit
namespace TermN
open LexM TermM TermI Kit
theorem depthT_le (t : Tm) : depthT t ≤ sizeT t := by
  induction t using Tm.ind with
  | h n l ih =>
    have : depthL l ≤ sizeL l := by
      induction l with
      | nil => simp [depthL]
      | cons a l ihl =>
        have h1 := ih a (by simp)
        have h2 := ihl (fun x hx => ih x (by simp [hx]))
        simp only [depthL, sizeL]
        omega
    simp only [depthT, sizeT]
    omega
theorem sizeT_pos : ∀ t : Tm, 1 ≤ sizeT t
  | .mk n l => by simp only [sizeT]; omega
theorem size_get {l : List Tm} {k : Nat} {t : Tm} (h : l[k]? = some t) : sizeT t ≤ sizeL l := by
  induction l generalizing k with
  | nil => simp at h
  | cons a l ih =>
    simp only [sizeL]
    cases k with
    | zero => simp at h; subst h; omega
    | succ k => have := ih (k := k) (by simpa using h); omega
theorem depthL_take (l : List Tm) (k : Nat) : depthL (l.take k) ≤ depthL l := by
  induction l generalizing k with
  | nil => simp
  | cons a l ih =>
    cases k with
    | zero => simp [depthL]
    | succ k => have := ih k; simp only [List.take_succ_cons, depthL]; omega
theorem sizeL_take (l : List Tm) (k : Nat) : sizeL (l.take k) ≤ sizeL l := by
  induction l generalizing k with
  | nil => simp
  | cons a l ih =>
    cases k with
    | zero => simp [sizeL]
    | succ k => have := ih k; simp only [List.take_succ_cons, sizeL]; omega
theorem len_size (l : List Tm) : l.length ≤ sizeL l := by
  induction l with
  | nil => simp
  | cons a l ih => have := sizeT_pos a; simp only [List.length_cons, sizeL]; omega
theorem depth_next (l : List Tm) (k : Nat) (t : Tm) (h : l[k]? = some t) : depthL (l.take (k + 1)) = max (depthL (l.take k)) (depthT t) := by
  rw [take_get l k t h, depthL_app]; simp [depthL]
theorem size_next (l : List Tm) (k : Nat) (t : Tm) (h : l[k]? = some t) : sizeL (l.take (k + 1)) = sizeL (l.take k) + sizeT t := by
  rw [take_get l k t h, sizeL_app]; simp [sizeL]
end TermN
end Go.Proofs.YtgbbpliihglijaaGreat
