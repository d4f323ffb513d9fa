/- Layer 8, pure: what a value needs, numbers as bytes, a value's parts, what stands on its blocks. -/
import Derived.Test.YteiiekfccecoiaaBJh
import Derived.Test.YteiiekfccecoiaaBFd
namespace Go.Proofs.Yteiiekfccecoiaa
open Go.Am
set_option linter.unusedVariables false
set_option maxRecDepth 20000

/-- How many blocks a value of n bytes needs. -/
def need (n : Nat) : Nat := max 1 ((n + 255) / 256) + (max 1 ((n + 255) / 256) + 119) / 120
theorem need_two (n : Nat) : 2 ≤ need n := by unfold need; omega
theorem need_le {n : Nat} (h : n ≤ 10000000) : need n ≤ 50000 := by unfold need; omega

/-- A number as so many bytes, the lowest first. -/
def leB (m v : Nat) : List UInt8 := (List.range m).map fun j => UInt8.ofNat (v / 2 ^ (8 * j) % 256)
@[simp] theorem leB_len (m v : Nat) : (leB m v).length = m := by simp [leB]
theorem leB_succ (m v : Nat) : leB (m + 1) v = leB m v ++ [UInt8.ofNat (v / 2 ^ (8 * m) % 256)] := by simp [leB, List.range_succ]
/-- The number of the first so many bytes. -/
def numB (bs : List UInt8) : Nat → Nat
  | 0 => 0
  | i + 1 => numB bs i + (bs[i]?.getD 0).toNat * 2 ^ (8 * i)
theorem numB_lt (bs : List UInt8) : ∀ i, numB bs i < 2 ^ (8 * i)
  | 0 => by simp [numB]
  | i + 1 => by
    have h1 := numB_lt bs i
    have h2 : (bs[i]?.getD 0).toNat ≤ 255 := by have := (bs[i]?.getD 0).toNat_lt; omega
    have h3 : (bs[i]?.getD 0).toNat * 2 ^ (8 * i) ≤ 255 * 2 ^ (8 * i) := Nat.mul_le_mul_right _ h2
    have h4 : 2 ^ (8 * (i + 1)) = 256 * 2 ^ (8 * i) := by rw [show 8 * (i + 1) = 8 * i + 8 by omega, Nat.pow_add]; omega
    simp only [numB]
    omega
theorem numB_leB (m v : Nat) : ∀ i, i ≤ m → numB (leB m v) i = v % 2 ^ (8 * i)
  | 0, _ => by simp [numB, Nat.mod_one]
  | i + 1, h => by
    have hg : (leB m v)[i]? = some (UInt8.ofNat (v / 2 ^ (8 * i) % 256)) := by simp [leB, show i < m by omega]
    have ht : (UInt8.ofNat (v / 2 ^ (8 * i) % 256)).toNat = v / 2 ^ (8 * i) % 256 := toNat_of (by omega)
    simp only [numB]
    rw [numB_leB m v i (by omega), hg, Option.getD_some, ht, show 8 * (i + 1) = 8 * i + 8 by omega, Nat.pow_add, Nat.mod_mul, Nat.mul_comm (v / 2 ^ (8 * i) % 256)]
theorem numB_app (xs ys : List UInt8) : ∀ i, i ≤ xs.length → numB (xs ++ ys) i = numB xs i
  | 0, _ => rfl
  | i + 1, h => by simp only [numB]; rw [numB_app xs ys i (by omega), List.getElem?_append_left (by omega)]
theorem or_byte {u d i : Nat} (h : u < 2 ^ (8 * i)) : (u ||| d * 2 ^ (8 * i)) = u + d * 2 ^ (8 * i) := by
  rw [Nat.or_comm, Nat.mul_comm, ← Nat.two_pow_add_eq_or_of_lt h]; omega

/-- Where the value's bytes begin in its block k; how many of them the blocks ahead of it have room for. -/
def dAt (k : Nat) : Nat := if k = 0 then 13 else 2
def offB (k : Nat) : Nat := if k = 0 then 0 else 254 * k - 11
theorem dAt_cases (k : Nat) : (k = 0 ∧ dAt k = 13) ∨ (0 < k ∧ dAt k = 2) := by unfold dAt; split <;> omega
theorem offB_succ (k : Nat) : offB (k + 1) = offB k + (256 - dAt k) := by unfold offB dAt; split <;> split <;> omega
theorem offB_le {i k : Nat} (h : i ≤ k) : offB i ≤ offB k := by unfold offB; split <;> split <;> omega
theorem need_cap (n : Nat) : n ≤ offB (need n) := by
  have := need_two n
  unfold offB
  rw [if_neg (by omega)]
  unfold need
  omega
/-- A value's part in its block k. -/
def partB (data : List UInt8) (k : Nat) : List UInt8 := (data.drop (offB k)).take (256 - dAt k)
theorem partB_len (data : List UInt8) (k : Nat) : (partB data k).length = min (256 - dAt k) (data.length - offB k) := by simp [partB]
theorem partB_le (data : List UInt8) (k : Nat) : (partB data k).length ≤ 256 - dAt k := by rw [partB_len]; omega
theorem partB_void {data : List UInt8} {k : Nat} (h : data.length ≤ offB k) : partB data k = [] := by
  unfold partB; rw [List.drop_of_length_le h]; simp
theorem take_partB (data : List UInt8) (k : Nat) : data.take (offB k) ++ partB data k = data.take (offB (k + 1)) := by
  unfold partB; rw [offB_succ, List.take_add]

/-- What a value's block k links to; the bytes ahead of the value's part; all the block's bytes. -/
def linkB (l : List Nat) (k : Nat) : Nat := l[(k + 1) % l.length]?.getD 0
def hdB (l : List Nat) (data : List UInt8) (s k : Nat) : List UInt8 := leB 2 (linkB l k) ++ (if k = 0 then leB 3 data.length ++ leB 8 s else [])
theorem hdB_len (l : List Nat) (data : List UInt8) (s k : Nat) : (hdB l data s k).length = dAt k := by unfold hdB dAt; split <;> simp
def bodyB (data : List UInt8) (k : Nat) : List UInt8 := partB data k ++ List.replicate (256 - dAt k - (partB data k).length) 0
theorem bodyB_len (data : List UInt8) (k : Nat) : (bodyB data k).length = 256 - dAt k := by have := partB_le data k; unfold bodyB; simp; omega
def imgB (l : List Nat) (data : List UInt8) (s k : Nat) : List UInt8 := hdB l data s k ++ bodyB data k
theorem imgB_len (l : List Nat) (data : List UInt8) (s k : Nat) : (imgB l data s k).length = 256 := by
  have := dAt_cases k
  unfold imgB; rw [List.length_append, hdB_len, bodyB_len]; omega
def imgs (l : List Nat) (data : List UInt8) (s : Nat) : List (List UInt8) := (List.range l.length).map (imgB l data s)
theorem imgs_len (l : List Nat) (data : List UInt8) (s : Nat) : (imgs l data s).length = l.length := by simp [imgs]
theorem imgs_at {l : List Nat} {data : List UInt8} {s k : Nat} (h : k < l.length) : (imgs l data s)[k]? = some (imgB l data s k) := by simp [imgs, h]

/-- The sum of all that stands on a value's blocks. -/
def sumT (all : List (List UInt8)) : Int := fnv 14695981039346656037 ((all[0]?.getD []).take 5 ++ ((all[0]?.getD []).drop 13 ++ all.tail.flatten))
theorem wrap64 (n : Int) : 0 ≤ wrapB .u64 n ∧ wrapB .u64 n < 18446744073709551616 := by
  unfold wrapB
  by_cases h : (ileB (leastB .u64) n && ileB n (mostB .u64)) = true
  · rw [h]
    rw [Bool.and_eq_true, ileB_iff, ileB_iff] at h
    have h1 : leastB .u64 = 0 := by decide
    have h2 : mostB .u64 = 18446744073709551615 := by decide
    simp only
    omega
  · rw [show (ileB (leastB .u64) n && ileB n (mostB .u64)) = false by simpa using h]
    simp only
    rw [wrap_u64]
    omega
theorem fnv_range : ∀ {bs : List UInt8} {s : Int}, 0 ≤ s ∧ s < 18446744073709551616 → 0 ≤ fnv s bs ∧ fnv s bs < 18446744073709551616
  | [], s, h => h
  | b :: bs, s, h => by
    show 0 ≤ fnv (fnv1 s b) bs ∧ fnv (fnv1 s b) bs < _
    exact fnv_range (wrap64 _)
theorem sumT_range (all : List (List UInt8)) : 0 ≤ sumT all ∧ sumT all < 18446744073709551616 := fnv_range (by decide)
theorem imgs_cons {l : List Nat} {data : List UInt8} {s : Nat} (h : 0 < l.length) : imgs l data s = imgB l data s 0 :: (List.range' 1 (l.length - 1)).map (imgB l data s) := by
  unfold imgs
  rw [List.range_eq_range', show l.length = (l.length - 1) + 1 by omega, List.range'_succ]
  simp
theorem imgB_pos {l : List Nat} {data : List UInt8} {s k : Nat} (h : 0 < k) : imgB l data s k = imgB l data 0 k := by
  unfold imgB hdB; rw [if_neg (by omega), if_neg (by omega)]
theorem imgB_zero (l : List Nat) (data : List UInt8) (s : Nat) : imgB l data s 0 = (leB 2 (linkB l 0) ++ leB 3 data.length) ++ (leB 8 s ++ bodyB data 0) := by
  unfold imgB hdB; rw [if_pos rfl]; simp
theorem imgB_front (l : List Nat) (data : List UInt8) (s : Nat) : (imgB l data s 0).take 5 = leB 2 (linkB l 0) ++ leB 3 data.length := by
  rw [imgB_zero, List.take_left' (by simp)]
theorem imgB_back (l : List Nat) (data : List UInt8) (s : Nat) : (imgB l data s 0).drop 13 = bodyB data 0 := by
  rw [imgB_zero, ← List.append_assoc, List.drop_left' (by simp)]
theorem sumT_same {l : List Nat} {data : List UInt8} {s : Nat} (h : 0 < l.length) : sumT (imgs l data s) = sumT (imgs l data 0) := by
  unfold sumT
  rw [imgs_cons h, imgs_cons h]
  simp only [List.getElem?_cons_zero, Option.getD_some, imgB_front, imgB_back, List.tail_cons]
  congr 4
  apply List.map_congr_left
  intro k hk
  rw [List.mem_range'_1] at hk
  exact imgB_pos (by omega)
def sumV (l : List Nat) (data : List UInt8) : Nat := (sumT (imgs l data 0)).toNat
theorem sumV_is (l : List Nat) (data : List UInt8) : ((sumV l data : Nat) : Int) = sumT (imgs l data 0) := by
  have := sumT_range (imgs l data 0)
  unfold sumV; omega
theorem sumV_lt (l : List Nat) (data : List UInt8) : sumV l data < 18446744073709551616 := by
  have := sumT_range (imgs l data 0)
  unfold sumV; omega
/-- What stands on a value's block k. -/
abbrev img (l : List Nat) (data : List UInt8) (k : Nat) : List UInt8 := imgB l data (sumV l data) k
theorem img_link {l : List Nat} {data : List UInt8} {k : Nat} (h : linkB l k < 65536) : numB ((img l data k).take 2) 2 = linkB l k := by
  have e : (img l data k).take 2 = leB 2 (linkB l k) := by
    unfold img imgB hdB; rw [List.append_assoc, List.take_left' (by simp)]
  rw [e, numB_leB _ _ _ (Nat.le_refl _)]
  exact Nat.mod_eq_of_lt h
theorem img_size {l : List Nat} {data : List UInt8} (h : data.length < 16777216) : numB (((img l data 0).drop 2).take 3) 3 = data.length := by
  have e : ((img l data 0).drop 2).take 3 = leB 3 data.length := by
    unfold img; rw [imgB_zero, List.append_assoc, List.drop_left' (by simp), List.take_left' (by simp)]
  rw [e, numB_leB _ _ _ (Nat.le_refl _)]
  exact Nat.mod_eq_of_lt h
theorem img_sum (l : List Nat) (data : List UInt8) : numB (((img l data 0).drop 5).take 8) 8 = sumV l data := by
  have e : ((img l data 0).drop 5).take 8 = leB 8 (sumV l data) := by
    unfold img; rw [imgB_zero, List.drop_left' (by simp), List.take_left' (by simp)]
  rw [e, numB_leB _ _ _ (Nat.le_refl _)]
  exact Nat.mod_eq_of_lt (sumV_lt l data)
theorem img_body (l : List Nat) (data : List UInt8) (k : Nat) : (img l data k).drop (dAt k) = bodyB data k := by
  unfold img imgB; rw [List.drop_left' (hdB_len ..)]
theorem body_part (data : List UInt8) (k : Nat) : (bodyB data k).take (min (256 - dAt k) (data.length - min (offB k) data.length)) = partB data k := by
  have h := partB_len data k
  unfold bodyB
  rw [List.take_left']
  omega
theorem linkB_next {l : List Nat} {k : Nat} (h : k + 1 < l.length) : linkB l k = l[k + 1] := by
  unfold linkB; rw [Nat.mod_eq_of_lt h, List.getElem?_eq_getElem h]; rfl
theorem linkB_last {l : List Nat} {k : Nat} (h : k + 1 = l.length) (h0 : 0 < l.length) : linkB l k = l[0] := by
  unfold linkB; rw [h, Nat.mod_self, List.getElem?_eq_getElem h0]; rfl
end Go.Proofs.Yteiiekfccecoiaa
