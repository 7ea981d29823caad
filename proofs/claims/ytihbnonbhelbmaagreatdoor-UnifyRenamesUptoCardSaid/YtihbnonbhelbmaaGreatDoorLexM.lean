/- Plain words of layers 1 and 4: bytes, names, numbers, variables, kinds of runs. No conditions. -/
namespace Go.Proofs.YtihbnonbhelbmaaGreatDoor
namespace LexM
def loB (n : Int) : Bool := decide (97 ≤ n) && decide (n ≤ 122)
def upB (n : Int) : Bool := decide (65 ≤ n) && decide (n ≤ 90)
def dgB (n : Int) : Bool := decide (48 ≤ n) && decide (n ≤ 57)
def blB (n : Int) : Bool := n == 32 || n == 9 || n == 10 || n == 13
def syB (n : Int) : Bool := n == 40 || n == 41 || n == 44 || n == 46
def ruB (n : Int) : Bool := loB n || upB n || dgB n || n == 45
def ncB (n : Int) : Bool := !(n == 10)
def nmB (n : Int) : Bool := loB n || dgB n || n == 45
def vrB (n : Int) : Bool := loB n || upB n || dgB n
def resB (l : List UInt8) : Bool := l == [105, 102] || l == [97, 110, 100] || l == [110, 111, 116]
def headB (p : Int → Bool) : List UInt8 → Bool
  | [] => false
  | b :: _ => p b.toNat
def allB (p : Int → Bool) (l : List UInt8) : Bool := l.all (fun b => p b.toNat)
def nameL (l : List UInt8) : Bool := decide (l.length ≤ 16) && headB loB l && !resB l && allB nmB l
def varL (l : List UInt8) : Bool := decide (l.length ≤ 16) && headB upB l && allB vrB l
def valL (l : List UInt8) : Int := l.foldl (fun n b => 10 * n + ((b.toNat : Int) - 48)) 0
def lead (l : List UInt8) : Bool := decide (1 < l.length) && headB (fun n => n == 48) l
def isNum (l : List UInt8) : Bool := decide (1 ≤ l.length) && decide (l.length ≤ 4) && !lead l && allB dgB l
def numV (l : List UInt8) : Int := if isNum l = true then valL l else 0
def kindL (l : List UInt8) : Int := if resB l = true then 5 else if nameL l = true then 1 else if isNum l = true then 2 else if varL l = true then 3 else 0
theorem allB_snoc (p : Int → Bool) (l : List UInt8) (b : UInt8) : allB p (l ++ [b]) = (allB p l && p b.toNat) := by simp [allB]
theorem valL_snoc (l : List UInt8) (b : UInt8) : valL (l ++ [b]) = 10 * valL l + ((b.toNat : Int) - 48) := by simp [valL]
theorem take_snoc (s : ByteArray) (k : Nat) (h : k < s.size) : s.data.toList.take (k + 1) = s.data.toList.take k ++ [s[k]] := by
  rw [List.take_succ_eq_append_getElem (by simpa using h)]; rfl
theorem allB_no (p : Int → Bool) (s : ByteArray) (k : Nat) (h : k < s.size) (hp : p s[k].toNat = false) : allB p s.data.toList = false := by
  unfold allB
  rw [List.all_eq_false]
  exact ⟨s[k], List.mem_iff_getElem.2 ⟨k, by simpa using h, rfl⟩, by simpa using hp⟩
theorem allB_all (p : Int → Bool) (s : ByteArray) (k : Nat) (h : s.size ≤ k) : allB p (s.data.toList.take k) = allB p s.data.toList := by
  rw [List.take_of_length_le (by simpa using h)]
theorem headB_eq (p : Int → Bool) (s : ByteArray) (h : 0 < s.size) : headB p s.data.toList = p s[0].toNat := by
  have hl : 0 < s.data.toList.length := by simpa using h
  have e : s.data.toList = s.data.toList[0] :: s.data.toList.drop 1 := by
    have := List.drop_eq_getElem_cons hl
    simpa using this
  rw [e]
  rfl
theorem len_eq (s : ByteArray) : s.data.toList.length = s.size := by simp
end LexM
end Go.Proofs.YtihbnonbhelbmaaGreatDoor
