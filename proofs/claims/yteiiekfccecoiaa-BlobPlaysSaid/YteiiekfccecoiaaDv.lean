/- Layer 3: what a block is behind a write. -/
import Derived.Test.YteiiekfccecoiaaDb
namespace Go.Proofs.Yteiiekfccecoiaa
open Go.Am
set_option linter.unusedVariables false
set_option maxRecDepth 20000

theorem blk_get {D : List UInt8} {j k : Nat} : (blk D j)[k]? = if k < 256 then D[j * 256 + k]? else none := by
  simp [List.getElem?_take]
theorem blk_put_same {D bs : List UInt8} {n i : Nat} (h : D.length = n * 256) (hi : i < n) (hb : bs.length = 256) : blk (put D i bs) i = bs := by
  have : i * 256 + 256 ≤ n * 256 := by omega
  have hl : (D.take (i * 256)).length = i * 256 := by rw [List.length_take]; omega
  unfold blk put
  rw [List.drop_left' hl, List.take_left' hb]
theorem put_get {D bs : List UInt8} {n i m : Nat} (h : D.length = n * 256) (hi : i < n) (hb : bs.length = 256) (hm : m < i * 256 ∨ i * 256 + 256 ≤ m) : (put D i bs)[m]? = D[m]? := by
  have : i * 256 + 256 ≤ n * 256 := by omega
  have hl : (D.take (i * 256)).length = i * 256 := by rw [List.length_take]; omega
  unfold put
  rcases hm with hm | hm
  · rw [List.getElem?_append_left (by omega), List.getElem?_take]; simp [hm]
  · rw [List.getElem?_append_right (by omega), List.getElem?_append_right (by omega), List.getElem?_drop]
    congr 1
    omega
theorem blk_put_ne {D bs : List UInt8} {n i j : Nat} (h : D.length = n * 256) (hi : i < n) (hb : bs.length = 256) (hij : j ≠ i) : blk (put D i bs) j = blk D j := by
  apply List.ext_getElem?
  intro k
  rw [blk_get, blk_get]
  split
  · rw [put_get h hi hb (by omega)]
  · rfl
theorem blk_zeros {n j : Nat} (hj : j < n) : blk (List.replicate (n * 256) 0) j = List.replicate 256 0 := by
  have : j * 256 + 256 ≤ n * 256 := by omega
  unfold blk
  rw [List.drop_replicate, List.take_replicate]
  congr 1
  omega

theorem ok_of {D : List UInt8} {n wr left : Nat} {cut dead : Bool} (h : D.length = n * 256) (h1 : 512 ≤ n) (h2 : n ≤ 32768) (h3 : wr ≤ 1000000) (h4 : left ≤ 9223372036854775807) : Dk.ok ⟨n, D, wr, cut, left, dead⟩ := ⟨h, h1, h2, h3, h4⟩

end Go.Proofs.Yteiiekfccecoiaa
