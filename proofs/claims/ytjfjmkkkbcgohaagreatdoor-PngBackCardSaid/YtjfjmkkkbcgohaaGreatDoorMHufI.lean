import Derived.Test.YtjfjmkkkbcgohaaGreatDoorMHufA
namespace Go.Proofs.YtjfjmkkkbcgohaaGreatDoor
open Go Go.RowKit
theorem Has.ne {w : World} {g g' : Nat} {t t' : TypeId} {cs cs' : Array Value} (h : Has w g t cs) (h' : Has w g' t' cs') (ht : t ≠ t') : g ≠ g':=by
 rintro rfl
 unfold Has at h h'
 rw [h] at h'
 injection h' with h'
 injection h' with _ h'
 exact ht h'
end Go.Proofs.YtjfjmkkkbcgohaaGreatDoor
namespace Go.Proofs.YtjfjmkkkbcgohaaGreatDoor
end Go.Proofs.YtjfjmkkkbcgohaaGreatDoor
namespace Go.Proofs.YtjfjmkkkbcgohaaGreatDoor
def behindK (last : Bool) : Nat:=if last then 11 else 0
def stK (last : Bool) (n : Nat) : Nat:=if n = 0 then behindK last else 2
theorem stK_zero (last : Bool) : stK last 0 = behindK last:=rfl
theorem stK_pos (last : Bool) {n : Nat} (h : 0 < n) : stK last n = 2:=if_neg (by omega)
variable {T : List UInt8} {N : Nat}
def bytesAt (N p n : Nat) : List UInt8:=(List.range n).map fun i=>UInt8.ofNat (N / 2 ^ (p + 8 * i))
theorem bytesAt_length (N p n : Nat) : (bytesAt N p n).length = n:=by simp [bytesAt]
theorem bytesAt_succ (N p n : Nat) : bytesAt N p (n + 1) = bytesAt N p n ++ [UInt8.ofNat (N / 2 ^ (p + 8 * n))]:=by
 unfold bytesAt; rw [List.range_succ,List.map_append]; rfl
theorem bytesAt_num (B : List UInt8) (j n : Nat) (h : j + n <= B.length) : bytesAt (num B) (8 * j) n = (B.drop j).take n:=by
 apply List.ext_getElem
 ·rw [bytesAt_length,List.length_take,List.length_drop]; omega
 ·intro i h1 h2
  rw [bytesAt_length] at h1
  simp only [bytesAt,List.getElem_map,List.getElem_range,List.getElem_take,List.getElem_drop]
  apply UInt8.toNat_inj.1
  rw [UInt8.toNat_ofNat',num_get B _ (by omega),pow_256]
  congr 3
  omega
def hdr (last : Bool) (n : Nat) : List UInt8:=[UInt8.ofNat last.toNat,UInt8.ofNat n,UInt8.ofNat (n / 256),UInt8.ofNat (255 - n % 256),UInt8.ofNat (255 - n / 256)]
theorem num_hdr (last : Bool) (n : Nat) (hn : n < 65536) : num (hdr last n) = last.toNat + 256 * (n + 65536 * (65535 - n)):=by
 have hl : last.toNat < 2:=by cases last <;> decide
 simp only [hdr,num,UInt8.toNat_ofNat']
 omega
theorem part_bits (B : List UInt8) (a o k n : Nat) (h : 8 * o + k + n <= 8 * a) : bitsOf (num ((B.take a).drop o)) k n = bitsOf (num B) (8 * o + k) n:=by
 unfold bitsOf
 rw [num_drop,num_take,pow_256,pow_256,Nat.div_div_eq_div_mul,<- Nat.pow_add,mod_div_mod _ _ _ _ h]
theorem part_length (B : List UInt8) (a o : Nat) (ha : a <= B.length) : ((B.take a).drop o).length = a - o:=by
 rw [List.length_drop,List.length_take]; omega
end Go.Proofs.YtjfjmkkkbcgohaaGreatDoor
