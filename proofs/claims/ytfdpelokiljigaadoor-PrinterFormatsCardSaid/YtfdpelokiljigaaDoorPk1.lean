/- Texts laid together: Kit; LexM; LexA; LexB. Their own heads stand before each. -/
import Derived.Test.YtfdpelokiljigaaDoorRows
import Derived.WalkKit
import Derived.ProofKit
import Derived.OpenShut
import Derived.BigRegion
import Derived.Deep.QuietTactic
import Derived.BigQuiet
import Derived.Lib.Hide
import Derived.PlainAid
import Derived.Handy
import Derived.Below
import Derived.ChangeOld
import Derived.Carry
/- Small facts used by every walk of this seat: a new block's cells behind a call, draws, and the last step of a law's proof (true came back, and nothing that was there has changed). No conditions. -/
namespace Go.Proofs.YtfdpelokiljigaaDoor
open Go Go.RowKit

namespace Kit
theorem ret_int {k : IntKind} {a b : Int} (h : a = b) : Ending.returned (.int k a) = Ending.returned (.int k b) := by rw [h]
theorem ret_bool {a b : Bool} (h : a = b) : Ending.returned (.bool a) = Ending.returned (.bool b) := by rw [h]
theorem ret_str {a b : ByteArray} (h : a = b) : Ending.returned (.string a) = Ending.returned (.string b) := by rw [h]
theorem below_alloc (w : World) (o : Obj) : Below w.heap.size w (w.alloc o) := (Below.refl _ _).alloc (Nat.le_refl _) o
theorem below_drewN {B : Nat} {a w : World} (h : Below B a w) : ∀ n, Below B a (w.drewN n)
  | 0 => h
  | n + 1 => (below_drewN h n).drew
theorem next1 {w w1 w2 : World} {o : Obj} (k1 : Below w.heap.size w w1) (k2 : Below (w1.alloc o).heap.size (w1.alloc o) w2) : Below w.heap.size w w2 :=
  k1.trans (((below_alloc w1 o).trans (k2.mono (by simp))).mono k1.size)
theorem lt1 {w1 w2 : World} {o : Obj} (k2 : Below (w1.alloc o).heap.size (w1.alloc o) w2) : w1.heap.size < w2.heap.size := by have := k2.size; simp at this; omega
theorem next0 {w w1 w2 : World} (k1 : Below w.heap.size w w1) (k2 : Below w1.heap.size w1 w2) : Below w.heap.size w w2 := k1.trans (k2.mono k1.size)
theorem bcell {W w1 : World} {B : Nat} (hb : Below B W w1) : (∀ b o, b < B → w1.cell? ⟨b, o, none⟩ = W.cell? ⟨b, o, none⟩) ∧ (∀ b o, b < B → w1.frozen? ⟨b, o, none⟩ = W.frozen? ⟨b, o, none⟩) :=
  ⟨fun b o h => hb.cell (p := ⟨b, o, none⟩) h, fun b o h => hb.frozen (p := ⟨b, o, none⟩) h⟩
theorem quiet_eq {P : Program} {f : FuncId} {args : Array Value} {w : World} {n : Nat} {v : Value}
    (h : Calls P f args (w.drewN n) fun e w' => e = .returned v ∧ w.drewN n = w') : Calls P f args (w.drewN n) fun e w'' => e = .returned v ∧ ∃ m, w'' = w.drewN m :=
  h.mono fun _ _ ⟨he, hm⟩ => ⟨he, n, hm.symm⟩

/-- Block g is the cells cs, none of them frozen. -/
def Has (w : World) (g : Nat) (cs : Array Value) : Prop := ∃ t, w.heap[g]? = some (.cells cs t (0, 0))
section
variable {w w' : World} {g : Nat} {cs : Array Value}
theorem Has.lt (h : Has w g cs) : g < w.heap.size := by
  obtain ⟨t, h⟩ := h
  rcases Nat.lt_or_ge g w.heap.size with hlt | hge
  · exact hlt
  · rw [Array.getElem?_eq_none hge] at h; cases h
theorem Has.cell (h : Has w g cs) (i : Nat) : w.cell? ⟨g, i, none⟩ = cs[i]? := by
  obtain ⟨t, h⟩ := h
  exact cell_of_row w g i cs t (0, 0) h
theorem Has.free (h : Has w g cs) (i : Nat) : w.frozen? ⟨g, i, none⟩ = false := by
  obtain ⟨t, h⟩ := h
  simp [World.frozen?, h]
theorem Has.new (w : World) (t : TypeId) (cs : Array Value) : Has (w.alloc (.cells cs t)) w.heap.size cs := ⟨t, heap_alloc_new w _⟩
theorem Has.alloc (h : Has w g cs) (o : Obj) : Has (w.alloc o) g cs := by
  have hl := h.lt
  obtain ⟨t, h⟩ := h
  exact ⟨t, by rw [Below.heap_alloc w o g hl, h]⟩
theorem Has.new1 (w : World) (o : Obj) (t : TypeId) (cs : Array Value) : Has ((w.alloc o).alloc (.cells cs t)) (w.heap.size + 1) cs := by
  have := Has.new (w.alloc o) t cs
  rwa [World.size_alloc] at this
theorem Has.new2 (w : World) (o p : Obj) (t : TypeId) (cs : Array Value) : Has (((w.alloc o).alloc p).alloc (.cells cs t)) (w.heap.size + 1 + 1) cs := by
  have := Has.new ((w.alloc o).alloc p) t cs
  rwa [World.size_alloc, World.size_alloc] at this
theorem Has.new3 (w : World) (o p q : Obj) (t : TypeId) (cs : Array Value) : Has ((((w.alloc o).alloc p).alloc q).alloc (.cells cs t)) (w.heap.size + 1 + 1 + 1) cs := by
  have := Has.new (((w.alloc o).alloc p).alloc q) t cs
  rwa [World.size_alloc, World.size_alloc, World.size_alloc] at this
theorem Has.drewN (h : Has w g cs) (n : Nat) : Has (w.drewN n) g cs := h
theorem Has.drew (h : Has w g cs) : Has w.drew g cs := h
theorem Has.below {B : Nat} (h : Has w g cs) (hb : Below B w w') (hg : g < B) : Has w' g cs := by
  obtain ⟨t, h⟩ := h
  exact ⟨t, (hb.block g hg).trans h⟩
theorem Has.far (h : Has w g cs) {p : Addr} (hp : g ≠ p.block) (u : Value) : Has (w.setCell p u) g cs := by
  obtain ⟨t, h⟩ := h
  exact ⟨t, (Below.heap_setCell w p u g hp).trans h⟩
theorem Has.set (h : Has w g cs) (i : Nat) (u : Value) : Has (w.setCell ⟨g, i, none⟩ u) g (cs.setIfInBounds i u) := by
  obtain ⟨t, h⟩ := h
  exact ⟨t, by simp [World.setCell, Array.getElem?_modify, h]⟩
theorem Has.put0 {a b : Value} (h : Has w g #[a, b]) (u _v : Value) : (w.setCell ⟨g, 0, none⟩ u).cell? ⟨g, 0, none⟩ = some u := (h.set 0 u).cell 0
theorem Has.put1 {a b : Value} (h : Has w g #[a, b]) (u v : Value) : ((w.setCell ⟨g, 0, none⟩ u).setCell ⟨g, 1, none⟩ v).cell? ⟨g, 1, none⟩ = some v := ((h.set 0 u).set 1 v).cell 1
theorem Has.step {o : Obj} (h : Has w g cs) (k : Below (w.alloc o).heap.size (w.alloc o) w') : Has w' g cs := (h.alloc o).below k (by have := h.lt; simp; omega)
theorem Has.step0 (h : Has w g cs) (k : Below w.heap.size w w') : Has w' g cs := h.below k h.lt
theorem Has.made {t : TypeId} (k : Below (w.alloc (.cells cs t)).heap.size (w.alloc (.cells cs t)) w') : Has w' w.heap.size cs := (Has.new w t cs).below k (by simp)
theorem Has.two {a b : Value} (h : Has w g #[a, b]) : w.cell? ⟨g, 0, none⟩ = some a ∧ w.cell? ⟨g, 1, none⟩ = some b ∧ w.frozen? ⟨g, 0, none⟩ = false ∧ w.frozen? ⟨g, 1, none⟩ = false ∧ g < w.heap.size :=
  ⟨h.cell 0, h.cell 1, h.free 0, h.free 1, h.lt⟩
end

section
variable {H : Type} {enc : TypeId × Value → H} {P : Program}
theorem args_stay (hl : laidOutB P = true) {W W' : World} (hb : Below W.heap.size W W') : ∀ (ts : List TypeId) (vs : List Value) (ds : List (DataW H)) (ps : List MemPlace),
    (∀ t ∈ ts, P.readableRec t = true ∧ t < P.types.size) → DataW.TrodAll enc P W 0 (fun _ => true) true ts vs ds ps → (∀ x ∈ ps, x.block < W.heap.size) →
    DataW.TrodAll enc P W' 0 (fun b => decide (b < W.heap.size)) true ts vs ds ps
  | [], [], [], _, _, h, _ => h
  | [], _ :: _, _, _, _, h, _ => h.elim
  | [], [], _ :: _, _, _, h, _ => h.elim
  | t :: ts, vs, ds, ps, hr, h, hp => by
    obtain ⟨v, vs', d, ds', p, q, rfl, rfl, rfl, hv, hr'⟩ := ChangeShapes.trodAll_cons h
    refine ⟨p, q, Below.trod hl (hr t (by simp)).1 (hr t (by simp)).2 hv hb (fun x hx => hp x (by simp [hx])), ?_, rfl⟩
    exact args_stay hl hb ts vs' ds' q (fun t' ht => hr t' (by simp [ht])) hr' (fun x hx => hp x (by simp [hx]))

/-- THE LAST STEP OF A LAW: true came back and nothing that was there has changed. -/
theorem law_post {f : Func} {s : ChangeSpec} {W W' : World} {args : Array Value} {ds gs : List (DataW H)} {before : List MemPlace} (tb : TypeId)
    (hl : laidOutB P = true) (hpar : ∀ t ∈ f.params.toList, P.readableRec t = true ∧ t < P.types.size) (hrt : f.resultTypes = #[tb]) (hb : P.underlying tb = some .bool)
    (hW : DataW.Whole enc P f.params.toList s.vars false W args.toList ds gs before) (hv0 : s.vars = [])
    (hs : (s.fn H (ds ++ gs)).results = [.lit (.bool true)] ∧ (s.fn H (ds ++ gs)).args = ds ∧ (s.fn H (ds ++ gs)).vars = [])
    (bel : Below W.heap.size W W') : s.post enc P f false true false false W args (.bool true) W' := by
  have hW' := hW
  obtain ⟨p, q, hA0, hV, hbef, hfz, hnd⟩ := hW
  have hlt := hW'.lt
  have hp : ∀ x ∈ p, x.block < W.heap.size := fun x hx => hlt x (by rw [hbef]; simp [hx])
  refine ⟨ds, gs, before, [], p, [], hW', ?_, ?_, ?_, bel.frame _, fun h => by cases h⟩
  · rw [hs.1, hrt]
    exact ChangeShapes.trodAll_mk1 (RowKit.shut_bool hb true)
  · rw [hs.2.1]
    exact args_stay hl bel _ _ _ _ hpar hA0 hp
  · rw [hs.2.2, hv0]
    exact rfl
end
end Kit
end Go.Proofs.YtfdpelokiljigaaDoor
/- Plain words of layers 1 and 4: bytes, names, numbers, variables, kinds of runs. No conditions. -/
namespace Go.Proofs.YtfdpelokiljigaaDoor
namespace LexM
def loB (n : Int) : Bool := decide (97 ≤ n) && decide (n ≤ 122)
def upB (n : Int) : Bool := decide (65 ≤ n) && decide (n ≤ 90)
def dgB (n : Int) : Bool := decide (48 ≤ n) && decide (n ≤ 57)
def blB (n : Int) : Bool := n == 32 || n == 9 || n == 10 || n == 13
def syB (n : Int) : Bool := n == 40 || n == 41 || n == 44 || n == 46
def ruB (n : Int) : Bool := loB n || upB n || dgB n || n == 45
def ncB (n : Int) : Bool := !(n == 10)
def nmB (n : Int) : Bool := loB n || dgB n || n == 45
def vrB (n : Int) : Bool := loB n || upB n || dgB n
def resB (l : List UInt8) : Bool := l == [105, 102] || l == [97, 110, 100] || l == [110, 111, 116]
def headB (p : Int → Bool) : List UInt8 → Bool
  | [] => false
  | b :: _ => p b.toNat
def allB (p : Int → Bool) (l : List UInt8) : Bool := l.all (fun b => p b.toNat)
def nameL (l : List UInt8) : Bool := decide (l.length ≤ 16) && headB loB l && !resB l && allB nmB l
def varL (l : List UInt8) : Bool := decide (l.length ≤ 16) && headB upB l && allB vrB l
def valL (l : List UInt8) : Int := l.foldl (fun n b => 10 * n + ((b.toNat : Int) - 48)) 0
def lead (l : List UInt8) : Bool := decide (1 < l.length) && headB (fun n => n == 48) l
def isNum (l : List UInt8) : Bool := decide (1 ≤ l.length) && decide (l.length ≤ 4) && !lead l && allB dgB l
def numV (l : List UInt8) : Int := if isNum l = true then valL l else 0
def kindL (l : List UInt8) : Int := if resB l = true then 5 else if nameL l = true then 1 else if isNum l = true then 2 else if varL l = true then 3 else 0
theorem allB_snoc (p : Int → Bool) (l : List UInt8) (b : UInt8) : allB p (l ++ [b]) = (allB p l && p b.toNat) := by simp [allB]
theorem valL_snoc (l : List UInt8) (b : UInt8) : valL (l ++ [b]) = 10 * valL l + ((b.toNat : Int) - 48) := by simp [valL]
theorem take_snoc (s : ByteArray) (k : Nat) (h : k < s.size) : s.data.toList.take (k + 1) = s.data.toList.take k ++ [s[k]] := by
  rw [List.take_succ_eq_append_getElem (by simpa using h)]; rfl
theorem allB_no (p : Int → Bool) (s : ByteArray) (k : Nat) (h : k < s.size) (hp : p s[k].toNat = false) : allB p s.data.toList = false := by
  unfold allB
  rw [List.all_eq_false]
  exact ⟨s[k], List.mem_iff_getElem.2 ⟨k, by simpa using h, rfl⟩, by simpa using hp⟩
theorem allB_all (p : Int → Bool) (s : ByteArray) (k : Nat) (h : s.size ≤ k) : allB p (s.data.toList.take k) = allB p s.data.toList := by
  rw [List.take_of_length_le (by simpa using h)]
theorem headB_eq (p : Int → Bool) (s : ByteArray) (h : 0 < s.size) : headB p s.data.toList = p s[0].toNat := by
  have hl : 0 < s.data.toList.length := by simpa using h
  have e : s.data.toList = s.data.toList[0] :: s.data.toList.drop 1 := by
    have := List.drop_eq_getElem_cons hl
    simpa using this
  rw [e]
  rfl
theorem len_eq (s : ByteArray) : s.data.toList.length = s.size := by simp
end LexM
end Go.Proofs.YtfdpelokiljigaaDoor
/- The contracts of the functions on bytes, of the code and of the reference, and of the reserved words. No conditions. -/
namespace Go.Proofs.YtfdpelokiljigaaDoor
open Go Go.RowKit
namespace LexA
open Kit LexM
theorem lower_any (n : Int) (w : World) :
    Calls Tryd.prog 72 #[.int .u8 n] w fun e w' => e = .returned (.bool (loB n)) ∧ w = w' := by
  go_enter Tryd.func72, Tryd.ntmps72
  go_wp2
  all_goals
    go_ret
    exact ⟨ret_bool (by unfold loB; first | rfl | (rw [Bool.eq_iff_iff]; simp <;> omega) | (rw [Bool.eq_iff_iff]; simp [*])), rfl⟩
theorem upper_any (n : Int) (w : World) :
    Calls Tryd.prog 111 #[.int .u8 n] w fun e w' => e = .returned (.bool (upB n)) ∧ w = w' := by
  go_enter Tryd.func111, Tryd.ntmps111
  go_wp2
  all_goals
    go_ret
    exact ⟨ret_bool (by unfold upB; first | rfl | (rw [Bool.eq_iff_iff]; simp <;> omega) | (rw [Bool.eq_iff_iff]; simp [*])), rfl⟩
theorem digit_any (n : Int) (w : World) :
    Calls Tryd.prog 74 #[.int .u8 n] w fun e w' => e = .returned (.bool (dgB n)) ∧ w = w' := by
  go_enter Tryd.func74, Tryd.ntmps74
  go_wp2
  all_goals
    go_ret
    exact ⟨ret_bool (by unfold dgB; first | rfl | (rw [Bool.eq_iff_iff]; simp <;> omega) | (rw [Bool.eq_iff_iff]; simp [*])), rfl⟩
theorem blank_any (n : Int) (w : World) :
    Calls Tryd.prog 100 #[.int .u8 n] w fun e w' => e = .returned (.bool (blB n)) ∧ w = w' := by
  go_enter Tryd.func100, Tryd.ntmps100
  go_wp2
  all_goals
    go_ret
    exact ⟨ret_bool (by unfold blB; first | rfl | (rw [Bool.eq_iff_iff]; simp <;> omega) | (rw [Bool.eq_iff_iff]; simp [*])), rfl⟩
theorem symbol_any (n : Int) (w : World) :
    Calls Tryd.prog 103 #[.int .u8 n] w fun e w' => e = .returned (.bool (syB n)) ∧ w = w' := by
  go_enter Tryd.func103, Tryd.ntmps103
  go_wp2
  all_goals
    go_ret
    exact ⟨ret_bool (by unfold syB; first | rfl | (rw [Bool.eq_iff_iff]; simp <;> omega) | (rw [Bool.eq_iff_iff]; simp [*])), rfl⟩
theorem run_any (n : Int) (w : World) :
    Calls Tryd.prog 104 #[.int .u8 n] w fun e w' => e = .returned (.bool (ruB n)) ∧ w = w' := by
  go_enter Tryd.func104, Tryd.ntmps104
  go_wp2
  all_goals
    go_ret
    exact ⟨ret_bool (by unfold ruB loB upB dgB; first | rfl | (rw [Bool.eq_iff_iff]; simp <;> omega) | (rw [Bool.eq_iff_iff]; simp [*])), rfl⟩
theorem line_any (n : Int) (w : World) :
    Calls Tryd.prog 102 #[.int .u8 n] w fun e w' => e = .returned (.bool (ncB n)) ∧ w = w' := by
  go_enter Tryd.func102, Tryd.ntmps102
  go_wp2
  all_goals
    go_ret
    exact ⟨ret_bool (by unfold ncB; first | rfl | (rw [Bool.eq_iff_iff]; simp <;> omega) | (rw [Bool.eq_iff_iff]; simp [*])), rfl⟩
theorem rlower_any (n : Int) (w : World) :
    Calls Tryd.prog 77 #[.int .u8 n] w fun e w' => e = .returned (.bool (loB n)) ∧ w = w' := by
  go_enter Tryd.func77, Tryd.ntmps77
  go_wp2
  all_goals
    go_ret
    exact ⟨ret_bool (by unfold loB; first | rfl | (rw [Bool.eq_iff_iff]; simp <;> omega) | (rw [Bool.eq_iff_iff]; simp [*])), rfl⟩
theorem rupper_any (n : Int) (w : World) :
    Calls Tryd.prog 119 #[.int .u8 n] w fun e w' => e = .returned (.bool (upB n)) ∧ w = w' := by
  go_enter Tryd.func119, Tryd.ntmps119
  go_wp2
  all_goals
    go_ret
    exact ⟨ret_bool (by unfold upB; first | rfl | (rw [Bool.eq_iff_iff]; simp <;> omega) | (rw [Bool.eq_iff_iff]; simp [*])), rfl⟩
theorem rdigit_any (n : Int) (w : World) :
    Calls Tryd.prog 78 #[.int .u8 n] w fun e w' => e = .returned (.bool (dgB n)) ∧ w = w' := by
  go_enter Tryd.func78, Tryd.ntmps78
  go_wp2
  all_goals
    go_ret
    exact ⟨ret_bool (by unfold dgB; first | rfl | (rw [Bool.eq_iff_iff]; simp <;> omega) | (rw [Bool.eq_iff_iff]; simp [*])), rfl⟩
theorem rblank_any (n : Int) (w : World) :
    Calls Tryd.prog 95 #[.int .u8 n] w fun e w' => e = .returned (.bool (blB n)) ∧ w = w' := by
  go_enter Tryd.func95, Tryd.ntmps95
  go_wp2
  all_goals
    go_ret
    exact ⟨ret_bool (by unfold blB; first | rfl | (rw [Bool.eq_iff_iff]; simp <;> omega) | (rw [Bool.eq_iff_iff]; simp [*])), rfl⟩
theorem rsymbol_any (n : Int) (w : World) :
    Calls Tryd.prog 96 #[.int .u8 n] w fun e w' => e = .returned (.bool (syB n)) ∧ w = w' := by
  go_enter Tryd.func96, Tryd.ntmps96
  go_wp2
  all_goals
    go_ret
    exact ⟨ret_bool (by unfold syB; first | rfl | (rw [Bool.eq_iff_iff]; simp <;> omega) | (rw [Bool.eq_iff_iff]; simp [*])), rfl⟩
theorem rrun_any (n : Int) (w : World) :
    Calls Tryd.prog 97 #[.int .u8 n] w fun e w' => e = .returned (.bool (ruB n)) ∧ w = w' := by
  go_enter Tryd.func97, Tryd.ntmps97
  go_wp2
  all_goals
    go_ret
    exact ⟨ret_bool (by unfold ruB loB upB dgB; first | rfl | (rw [Bool.eq_iff_iff]; simp <;> omega) | (rw [Bool.eq_iff_iff]; simp [*])), rfl⟩
theorem res_any (s : ByteArray) (w : World) :
    Calls Tryd.prog 73 #[.string s] w fun e w' => e = .returned (.bool (resB s.data.toList)) ∧ w = w' := by
  have E := Lib.hid (ByteArray.toList_eq s)
  go_enter Tryd.func73, Tryd.ntmps73
  go_wp2
  all_goals
    go_ret
    exact ⟨ret_bool (by rw [← E.out]; simp [resB, *]), rfl⟩
theorem rword_any (s : ByteArray) (w : World) :
    Calls Tryd.prog 115 #[.string s] w fun e w' => e = .returned (.bool (resB s.data.toList)) ∧ w = w' := by
  have E := Lib.hid (ByteArray.toList_eq s)
  go_enter Tryd.func115, Tryd.ntmps115
  go_wp2
  all_goals
    go_ret
    exact ⟨ret_bool (by rw [← E.out]; simp [resB, *]), rfl⟩
end LexA
end Go.Proofs.YtfdpelokiljigaaDoor
/- The contracts of Name and Variable, of the code and of the reference. Condition: the string's length fits an int. -/
namespace Go.Proofs.YtfdpelokiljigaaDoor
open Go Go.RowKit
namespace LexB
open Kit LexM LexA
set_option maxHeartbeats 1600000 in
theorem name_any (s : ByteArray) (w : World) (hs : s.size ≤ 140737488355328) :
    Calls Tryd.prog 48 #[.string s] w fun e w' => e = .returned (.bool (nameL s.data.toList)) ∧ w = w' := by
  have E := Lib.hid (ByteArray.toList_eq s)
  by_cases h0 : s.size < 1
  · have H : Hid (nameL s.data.toList = false) := by
      have : s.data.toList = [] := by apply List.eq_nil_of_length_eq_zero; rw [len_eq]; omega
      rw [this]; exact rfl
    go_enter Tryd.func48, Tryd.ntmps48
    go_wp2_with (first | (go_at_call 72; refine (lower_any _ _).mono ?_; rintro e w' ⟨rfl, rfl⟩) | (go_at_call 74; refine (digit_any _ _).mono ?_; rintro e w' ⟨rfl, rfl⟩) | (go_at_call 73; refine (res_any _ _).mono ?_; rintro e w' ⟨rfl, rfl⟩))
    go_ret
    exact ⟨ret_bool H.out.symm, rfl⟩
  by_cases h1 : 16 < s.size
  · have H : Hid (nameL s.data.toList = false) := by
      unfold nameL; rw [decide_eq_false (by rw [len_eq]; omega)]; exact rfl
    go_enter Tryd.func48, Tryd.ntmps48
    go_wp2_with (first | (go_at_call 72; refine (lower_any _ _).mono ?_; rintro e w' ⟨rfl, rfl⟩) | (go_at_call 74; refine (digit_any _ _).mono ?_; rintro e w' ⟨rfl, rfl⟩) | (go_at_call 73; refine (res_any _ _).mono ?_; rintro e w' ⟨rfl, rfl⟩))
    go_ret
    exact ⟨ret_bool H.out.symm, rfl⟩
  have hp : 0 < s.size := by omega
  have hh := headB_eq loB s hp
  have hlen : decide (s.data.toList.length ≤ 16) = true := decide_eq_true (by rw [len_eq]; omega)
  cases h2 : loB s[0].toNat
  · have H : Hid (nameL s.data.toList = false) := by
      unfold nameL; rw [hh, h2, Bool.and_false]; exact rfl
    clear hh hlen
    go_enter Tryd.func48, Tryd.ntmps48
    go_wp2_with (first | (go_at_call 72; refine (lower_any _ _).mono ?_; rintro e w' ⟨rfl, rfl⟩) | (go_at_call 74; refine (digit_any _ _).mono ?_; rintro e w' ⟨rfl, rfl⟩) | (go_at_call 73; refine (res_any _ _).mono ?_; rintro e w' ⟨rfl, rfl⟩))
    go_ret
    exact ⟨ret_bool H.out.symm, rfl⟩
  cases h3 : resB s.data.toList
  case true =>
    have H : Hid (nameL s.data.toList = false) := by
      unfold nameL; rw [h3, Bool.not_true, Bool.and_false]; exact rfl
    clear hh hlen
    go_enter Tryd.func48, Tryd.ntmps48
    go_wp2_with (first | (go_at_call 72; refine (lower_any _ _).mono ?_; rintro e w' ⟨rfl, rfl⟩) | (go_at_call 74; refine (digit_any _ _).mono ?_; rintro e w' ⟨rfl, rfl⟩) | (go_at_call 73; refine (res_any _ _).mono ?_; rintro e w' ⟨rfl, rfl⟩))
    all_goals
      go_ret
      exact ⟨ret_bool H.out.symm, rfl⟩
  have H : Hid (nameL s.data.toList = allB nmB s.data.toList) := by
    unfold nameL; rw [hh, h2, h3, hlen]; exact rfl
  clear hh hlen
  go_enter Tryd.func48, Tryd.ntmps48
  go_wp2_with (first | (go_at_call 72; refine (lower_any _ _).mono ?_; rintro e w' ⟨rfl, rfl⟩) | (go_at_call 74; refine (digit_any _ _).mono ?_; rintro e w' ⟨rfl, rfl⟩) | (go_at_call 73; refine (res_any _ _).mono ?_; rintro e w' ⟨rfl, rfl⟩))
  go_loop [24] (fun i => ∃ k : Nat, k ≤ s.size ∧ i = .int .i64 k ∧ Hid (allB nmB (s.data.toList.take k) = true)) (fun i => s.size - (intOf i).toNat)
  case atStart => exact ⟨0, Nat.zero_le _, rfl, Lib.hid rfl⟩
  case round =>
    obtain ⟨k, hk, rfl, hA⟩ := hrel
    by_cases hlt : k < s.size
    · have hsn : Hid (allB nmB (s.data.toList.take (k + 1)) = nmB s[k].toNat) := by
        rw [take_snoc s k hlt, allB_snoc, hA.out]; exact rfl
      have hno := Lib.hid (allB_no nmB s k hlt)
      have hb : ∀ c, (s[k].toNat : Int) = c → nmB s[k].toNat = nmB c := fun c h => by rw [h]
      have hnm : Hid (nmB s[k].toNat = (loB s[k].toNat || dgB s[k].toNat || ((s[k].toNat : Int) == 45))) := rfl
      clear hb h2
      cases c1 : loB s[k].toNat
      · cases c2 : dgB s[k].toNat
        · cases c3 : ((s[k].toNat : Int) == 45)
          · have N : Hid (nmB s[k].toNat = false) := by rw [hnm.out, c1, c2, c3]; exact rfl
            have c4 : ((s[k].toNat : Int) != 45) = true := by rw [bne, c3]; rfl
            go_wp2_with (first | (go_at_call 72; refine (lower_any _ _).mono ?_; rintro e w' ⟨rfl, rfl⟩) | (go_at_call 74; refine (digit_any _ _).mono ?_; rintro e w' ⟨rfl, rfl⟩) | (go_at_call 73; refine (res_any _ _).mono ?_; rintro e w' ⟨rfl, rfl⟩))
            go_ret
            exact ⟨ret_bool (by rw [H.out, hno.out N.out]), rfl⟩
          · have N : Hid (nmB s[k].toNat = true) := by rw [hnm.out, c1, c2, c3]; exact rfl
            have c4 : ((s[k].toNat : Int) != 45) = false := by rw [bne, c3]; rfl
            go_wp2_with (first | (go_at_call 72; refine (lower_any _ _).mono ?_; rintro e w' ⟨rfl, rfl⟩) | (go_at_call 74; refine (digit_any _ _).mono ?_; rintro e w' ⟨rfl, rfl⟩) | (go_at_call 73; refine (res_any _ _).mono ?_; rintro e w' ⟨rfl, rfl⟩))
            go_round
            case rel => exact ⟨k + 1, by omega, by go_num, by rw [hsn.out]; exact N⟩
            case measure => simp [intOf]; omega
        · have N : Hid (nmB s[k].toNat = true) := by rw [hnm.out, c1, c2]; exact rfl
          go_wp2_with (first | (go_at_call 72; refine (lower_any _ _).mono ?_; rintro e w' ⟨rfl, rfl⟩) | (go_at_call 74; refine (digit_any _ _).mono ?_; rintro e w' ⟨rfl, rfl⟩) | (go_at_call 73; refine (res_any _ _).mono ?_; rintro e w' ⟨rfl, rfl⟩))
          go_round
          case rel => exact ⟨k + 1, by omega, by go_num, by rw [hsn.out]; exact N⟩
          case measure => simp [intOf]; omega
      · have N : Hid (nmB s[k].toNat = true) := by rw [hnm.out, c1]; exact rfl
        go_wp2_with (first | (go_at_call 72; refine (lower_any _ _).mono ?_; rintro e w' ⟨rfl, rfl⟩) | (go_at_call 74; refine (digit_any _ _).mono ?_; rintro e w' ⟨rfl, rfl⟩) | (go_at_call 73; refine (res_any _ _).mono ?_; rintro e w' ⟨rfl, rfl⟩))
        go_round
        case rel => exact ⟨k + 1, by omega, by go_num, by rw [hsn.out]; exact N⟩
        case measure => simp [intOf]; omega
    · have hx := allB_all nmB s k (by omega)
      rw [hA.out] at hx
      have HX := Lib.hid hx.symm
      clear hx
      go_wp2_with (first | (go_at_call 72; refine (lower_any _ _).mono ?_; rintro e w' ⟨rfl, rfl⟩) | (go_at_call 74; refine (digit_any _ _).mono ?_; rintro e w' ⟨rfl, rfl⟩) | (go_at_call 73; refine (res_any _ _).mono ?_; rintro e w' ⟨rfl, rfl⟩))
      go_ret
      exact ⟨ret_bool (by rw [H.out, HX.out]), rfl⟩
set_option maxHeartbeats 1600000 in
theorem rname_any (s : ByteArray) (w : World) (hs : s.size ≤ 140737488355328) :
    Calls Tryd.prog 51 #[.string s] w fun e w' => e = .returned (.bool (nameL s.data.toList)) ∧ w = w' := by
  have E := Lib.hid (ByteArray.toList_eq s)
  by_cases h0 : s.size < 1
  · have H : Hid (nameL s.data.toList = false) := by
      have : s.data.toList = [] := by apply List.eq_nil_of_length_eq_zero; rw [len_eq]; omega
      rw [this]; exact rfl
    go_enter Tryd.func51, Tryd.ntmps51
    go_wp2_with (first | (go_at_call 77; refine (rlower_any _ _).mono ?_; rintro e w' ⟨rfl, rfl⟩) | (go_at_call 78; refine (rdigit_any _ _).mono ?_; rintro e w' ⟨rfl, rfl⟩))
    go_ret
    exact ⟨ret_bool H.out.symm, rfl⟩
  by_cases h1 : 16 < s.size
  · have H : Hid (nameL s.data.toList = false) := by
      unfold nameL; rw [decide_eq_false (by rw [len_eq]; omega)]; exact rfl
    go_enter Tryd.func51, Tryd.ntmps51
    go_wp2_with (first | (go_at_call 77; refine (rlower_any _ _).mono ?_; rintro e w' ⟨rfl, rfl⟩) | (go_at_call 78; refine (rdigit_any _ _).mono ?_; rintro e w' ⟨rfl, rfl⟩))
    go_ret
    exact ⟨ret_bool H.out.symm, rfl⟩
  have hp : 0 < s.size := by omega
  have hh := headB_eq loB s hp
  have hlen : decide (s.data.toList.length ≤ 16) = true := decide_eq_true (by rw [len_eq]; omega)
  cases h2 : loB s[0].toNat
  · have H : Hid (nameL s.data.toList = false) := by
      unfold nameL; rw [hh, h2, Bool.and_false]; exact rfl
    clear hh hlen
    go_enter Tryd.func51, Tryd.ntmps51
    go_wp2_with (first | (go_at_call 77; refine (rlower_any _ _).mono ?_; rintro e w' ⟨rfl, rfl⟩) | (go_at_call 78; refine (rdigit_any _ _).mono ?_; rintro e w' ⟨rfl, rfl⟩))
    go_ret
    exact ⟨ret_bool H.out.symm, rfl⟩
  cases h3 : resB s.data.toList
  case true =>
    have H : Hid (nameL s.data.toList = false) := by
      unfold nameL; rw [h3, Bool.not_true, Bool.and_false]; exact rfl
    clear hh hlen
    have q := h3
    unfold resB at q
    rw [← E.out] at q
    clear h3
    cases q1 : (s.toList == [105, 102])
    all_goals cases q2 : (s.toList == [97, 110, 100])
    all_goals cases q3 : (s.toList == [110, 111, 116])
    all_goals rw [q1, q2, q3] at q
    all_goals first | (exact absurd q (by decide)) | skip
    all_goals clear q
    all_goals have p1 : (s.toList = [105, 102]) = ((s.toList == [105, 102]) = true) := by rw [beq_iff_eq]
    all_goals have p2 : (s.toList = [97, 110, 100]) = ((s.toList == [97, 110, 100]) = true) := by rw [beq_iff_eq]
    all_goals have p3 : (s.toList = [110, 111, 116]) = ((s.toList == [110, 111, 116]) = true) := by rw [beq_iff_eq]
    all_goals rw [q1] at p1
    all_goals rw [q2] at p2
    all_goals rw [q3] at p3
    all_goals simp at p1 p2 p3
    all_goals
      go_enter Tryd.func51, Tryd.ntmps51
      go_wp2_with (first | (go_at_call 77; refine (rlower_any _ _).mono ?_; rintro e w' ⟨rfl, rfl⟩) | (go_at_call 78; refine (rdigit_any _ _).mono ?_; rintro e w' ⟨rfl, rfl⟩))
      all_goals
        go_ret
        exact ⟨ret_bool H.out.symm, rfl⟩
  have H : Hid (nameL s.data.toList = allB nmB s.data.toList) := by
    unfold nameL; rw [hh, h2, h3, hlen]; exact rfl
  clear hh hlen
  have q := h3
  unfold resB at q
  rw [← E.out] at q
  simp only [Bool.or_eq_false_iff] at q
  obtain ⟨⟨q1, q2⟩, q3⟩ := q
  have p1 : ¬ s.toList = [105, 102] := by simpa using q1
  have p2 : ¬ s.toList = [97, 110, 100] := by simpa using q2
  have p3 : ¬ s.toList = [110, 111, 116] := by simpa using q3
  clear h3
  go_enter Tryd.func51, Tryd.ntmps51
  go_wp2_with (first | (go_at_call 77; refine (rlower_any _ _).mono ?_; rintro e w' ⟨rfl, rfl⟩) | (go_at_call 78; refine (rdigit_any _ _).mono ?_; rintro e w' ⟨rfl, rfl⟩))
  go_loop [32] (fun i => ∃ k : Nat, k ≤ s.size ∧ i = .int .i64 k ∧ Hid (allB nmB (s.data.toList.take k) = true)) (fun i => s.size - (intOf i).toNat)
  case atStart => exact ⟨0, Nat.zero_le _, rfl, Lib.hid rfl⟩
  case round =>
    obtain ⟨k, hk, rfl, hA⟩ := hrel
    by_cases hlt : k < s.size
    · have hsn : Hid (allB nmB (s.data.toList.take (k + 1)) = nmB s[k].toNat) := by
        rw [take_snoc s k hlt, allB_snoc, hA.out]; exact rfl
      have hno := Lib.hid (allB_no nmB s k hlt)
      have hb : ∀ c, (s[k].toNat : Int) = c → nmB s[k].toNat = nmB c := fun c h => by rw [h]
      have hnm : Hid (nmB s[k].toNat = (loB s[k].toNat || dgB s[k].toNat || ((s[k].toNat : Int) == 45))) := rfl
      clear hb h2
      cases c1 : loB s[k].toNat
      · cases c2 : dgB s[k].toNat
        · cases c3 : ((s[k].toNat : Int) == 45)
          · have N : Hid (nmB s[k].toNat = false) := by rw [hnm.out, c1, c2, c3]; exact rfl
            have c4 : ((s[k].toNat : Int) != 45) = true := by rw [bne, c3]; rfl
            go_wp2_with (first | (go_at_call 77; refine (rlower_any _ _).mono ?_; rintro e w' ⟨rfl, rfl⟩) | (go_at_call 78; refine (rdigit_any _ _).mono ?_; rintro e w' ⟨rfl, rfl⟩))
            go_ret
            exact ⟨ret_bool (by rw [H.out, hno.out N.out]), rfl⟩
          · have N : Hid (nmB s[k].toNat = true) := by rw [hnm.out, c1, c2, c3]; exact rfl
            have c4 : ((s[k].toNat : Int) != 45) = false := by rw [bne, c3]; rfl
            go_wp2_with (first | (go_at_call 77; refine (rlower_any _ _).mono ?_; rintro e w' ⟨rfl, rfl⟩) | (go_at_call 78; refine (rdigit_any _ _).mono ?_; rintro e w' ⟨rfl, rfl⟩))
            go_round
            case rel => exact ⟨k + 1, by omega, by go_num, by rw [hsn.out]; exact N⟩
            case measure => simp [intOf]; omega
        · have N : Hid (nmB s[k].toNat = true) := by rw [hnm.out, c1, c2]; exact rfl
          go_wp2_with (first | (go_at_call 77; refine (rlower_any _ _).mono ?_; rintro e w' ⟨rfl, rfl⟩) | (go_at_call 78; refine (rdigit_any _ _).mono ?_; rintro e w' ⟨rfl, rfl⟩))
          go_round
          case rel => exact ⟨k + 1, by omega, by go_num, by rw [hsn.out]; exact N⟩
          case measure => simp [intOf]; omega
      · have N : Hid (nmB s[k].toNat = true) := by rw [hnm.out, c1]; exact rfl
        go_wp2_with (first | (go_at_call 77; refine (rlower_any _ _).mono ?_; rintro e w' ⟨rfl, rfl⟩) | (go_at_call 78; refine (rdigit_any _ _).mono ?_; rintro e w' ⟨rfl, rfl⟩))
        go_round
        case rel => exact ⟨k + 1, by omega, by go_num, by rw [hsn.out]; exact N⟩
        case measure => simp [intOf]; omega
    · have hx := allB_all nmB s k (by omega)
      rw [hA.out] at hx
      have HX := Lib.hid hx.symm
      clear hx
      go_wp2_with (first | (go_at_call 77; refine (rlower_any _ _).mono ?_; rintro e w' ⟨rfl, rfl⟩) | (go_at_call 78; refine (rdigit_any _ _).mono ?_; rintro e w' ⟨rfl, rfl⟩))
      go_ret
      exact ⟨ret_bool (by rw [H.out, HX.out]), rfl⟩
end LexB
end Go.Proofs.YtfdpelokiljigaaDoor
