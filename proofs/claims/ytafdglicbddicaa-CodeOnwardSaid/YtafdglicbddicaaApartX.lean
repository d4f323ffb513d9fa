/- bastionlaw01.CodeApart, where a thing may not be laid, and where texts are too long; the whole walk. -/
import Derived.Test.YtafdglicbddicaaApartW
namespace Go.Proofs.Ytafdglicbddicaa
open Go.RowKit

theorem no_one {k : UInt8} {N : Int} {s : ByteArray} (h : mayB ⟨k, N, s⟩ = false) : k.toNat = 1 ∧ isC N = false := by
  unfold mayB at h
  simp only [Bool.or_eq_false_iff, decide_eq_false_iff_not, Decidable.not_not] at h
  exact h
theorem no_bytes {k : UInt8} {N : Int} {s : ByteArray} (h : mayB ⟨k, N, s⟩ = false) : Th.bytes ⟨k, N, s⟩ = [] := by
  obtain ⟨h1, h2⟩ := no_one h
  rw [Th.b1 (t := ⟨k, N, s⟩) h1]
  exact cntB_no h2
theorem may_k {k : UInt8} {N M : Int} {s t : ByteArray} (h : mayB ⟨k, N, s⟩ = true) (h' : mayB ⟨k, M, t⟩ = false) : isC N = true := by
  obtain ⟨h1, _⟩ := no_one h'
  simpa [mayB, h1] using h

set_option maxRecDepth 100000 in
set_option maxHeartbeats 4000000 in
theorem apart_no1 (k k' : UInt8) (N M : Int) (s t : ByteArray) (w : World) (ha : Th.ok ⟨k, N, s⟩) (hb : Th.ok ⟨k, M, t⟩) (hl : s.size + t.size ≤ 100000) (ma : mayB ⟨k, N, s⟩ = false) :
    Calls Try.prog 6 #[.agg #[.int .u8 (k.toNat : Int), .int .i64 N, .string s], .agg #[.int .u8 (k'.toNat : Int), .int .i64 M, .string t]] w fun e w' => e = .returned (.bool true) ∧ Below w.heap.size w w' := by
  have h1 : (s.size : Int) + (t.size : Int) ≤ 100000 := by omega
  have HA := Lib.hid ha
  have HB := Lib.hid hb
  have hs1 : s.size ≤ 2147483647 := by omega
  have hs2 : t.size ≤ 2147483647 := by omega
  have S1 := Lib.hid hs1
  have S2 := Lib.hid hs2
  have MA := Lib.hid ma
  have HX := Lib.hid (no_bytes ma)
  clear ha hb hl hs1 hs2 ma
  go_enter Try.func6, Try.ntmps6
  go_wp2_with (first
    | (go_at_call 11; ((with_reducible refine (works_any _).mono ?_); rintro e w1 ⟨rfl, hb1⟩; obtain ⟨hA1, hB1⟩ := bk_two hb1; obtain ⟨a0, a1, a2, af, _⟩ := bk_cells hA1; obtain ⟨b0, b1, b2, bf, _⟩ := bk_cells hB1))
    | (go_at_call 30; ((with_reducible refine (may_is k N s _ MA.out).mono ?_); rintro e w2 ⟨rfl, hb2⟩; have hA2 := (hA1.far (p := ⟨w.heap.size + 1, 0, none⟩) (by simp) (.int .u8 (k.toNat : Int))).below_all hb2; have hB2 := (bk_set (k' := k) hB1).below_all hb2; clear a0 a1 a2 af b0 b1 b2 bf; obtain ⟨a0, a1, a2, af, _⟩ := bk_cells hA2; obtain ⟨b0, b1, b2, bf, _⟩ := bk_cells hB2))
    | (go_at_call 19; ((with_reducible refine (lay_is k N s _ HA.out S1.out HX.out rfl).mono ?_); rintro e w3 ⟨A3, c3, rfl, _, hb3⟩; have hA3 := hA2.below_all hb3; have hB3 := hB2.below_all hb3; clear a0 a1 a2 af b0 b1 b2 bf; obtain ⟨a0, a1, a2, af, _⟩ := bk_cells hA3; obtain ⟨b0, b1, b2, bf, _⟩ := bk_cells hB3)))
  go_ret
  exact ⟨rfl, seq (seq ((seq (seq_alloc (seq_alloc (Below.refl _ _) _) _) hb1).setCell (p := ⟨w.heap.size + 1, 0, none⟩) (by simp) _) hb2) hb3⟩


set_option maxRecDepth 100000 in
set_option maxHeartbeats 4000000 in
theorem apart_no2 (k k' : UInt8) (N M : Int) (s t : ByteArray) (w : World) (ha : Th.ok ⟨k, N, s⟩) (hb : Th.ok ⟨k, M, t⟩) (hl : s.size + t.size ≤ 100000) (ma : mayB ⟨k, N, s⟩ = true) (mb : mayB ⟨k, M, t⟩ = false) :
    Calls Try.prog 6 #[.agg #[.int .u8 (k.toNat : Int), .int .i64 N, .string s], .agg #[.int .u8 (k'.toNat : Int), .int .i64 M, .string t]] w fun e w' => e = .returned (.bool true) ∧ Below w.heap.size w w' := by
  have h1 : (s.size : Int) + (t.size : Int) ≤ 100000 := by omega
  have HA := Lib.hid ha
  have HB := Lib.hid hb
  have hs1 : s.size ≤ 2147483647 := by omega
  have hs2 : t.size ≤ 2147483647 := by omega
  have S1 := Lib.hid hs1
  have S2 := Lib.hid hs2
  have MA := Lib.hid ma
  have MB := Lib.hid mb
  have HY := Lib.hid (no_bytes mb)
  obtain ⟨X, hX⟩ : ∃ X, Th.bytes ⟨k, N, s⟩ = X := ⟨_, rfl⟩
  have hx0 : 0 < X.length := by rw [← hX]; exact List.length_pos_iff.2 (bytes_pos _ ma)
  have hxl : X.length ≤ 1000000 := by rw [← hX]; exact bytes_len _ ha (by simp only; omega)
  have HX := Lib.hid hX
  have e0 : ((X.length : Int) == 0) = false := by simp; intro h; rw [h] at hx0; simp at hx0
  clear ha hb hl hs1 hs2 ma mb hX
  go_enter Try.func6, Try.ntmps6
  go_wp2_with (first
    | (go_at_call 11; ((with_reducible refine (works_any _).mono ?_); rintro e w1 ⟨rfl, hb1⟩; obtain ⟨hA1, hB1⟩ := bk_two hb1; obtain ⟨a0, a1, a2, af, _⟩ := bk_cells hA1; obtain ⟨b0, b1, b2, bf, _⟩ := bk_cells hB1))
    | (go_at_call 30; ((with_reducible refine (may_is k N s _ MA.out).mono ?_); rintro e w2 ⟨rfl, hb2⟩; have hA2 := (hA1.far (p := ⟨w.heap.size + 1, 0, none⟩) (by simp) (.int .u8 (k.toNat : Int))).below_all hb2; have hB2 := (bk_set (k' := k) hB1).below_all hb2; clear a0 a1 a2 af b0 b1 b2 bf; obtain ⟨a0, a1, a2, af, _⟩ := bk_cells hA2; obtain ⟨b0, b1, b2, bf, _⟩ := bk_cells hB2))
    | (go_at_call 30; ((with_reducible refine (may_is k M t _ MB.out).mono ?_); rintro e w3 ⟨rfl, hb3⟩; have hA3 := hA2.below_all hb3; have hB3 := hB2.below_all hb3; clear a0 a1 a2 af b0 b1 b2 bf; obtain ⟨a0, a1, a2, af, _⟩ := bk_cells hA3; obtain ⟨b0, b1, b2, bf, _⟩ := bk_cells hB3))
    | (go_at_call 19; ((with_reducible refine (lay_is k N s _ HA.out S1.out HX.out rfl).mono ?_); rintro e w4 ⟨A4, c4, rfl, _, hb4⟩; have hA4 := hA3.below_all hb4; have hB4 := hB3.below_all hb4; clear a0 a1 a2 af b0 b1 b2 bf; obtain ⟨a0, a1, a2, af, _⟩ := bk_cells hA4; obtain ⟨b0, b1, b2, bf, _⟩ := bk_cells hB4))
    | (go_at_call 19; ((with_reducible refine (lay_is k M t _ HB.out S2.out HY.out rfl).mono ?_); rintro e w5 ⟨A5, c5, rfl, _, hb5⟩; have hA5 := hA4.below_all hb5; have hB5 := hB4.below_all hb5; clear a0 a1 a2 af b0 b1 b2 bf; obtain ⟨a0, a1, a2, af, _⟩ := bk_cells hA5; obtain ⟨b0, b1, b2, bf, _⟩ := bk_cells hB5)))
  go_ret
  exact ⟨rfl, seq (seq (seq (seq ((seq (seq_alloc (seq_alloc (Below.refl _ _) _) _) hb1).setCell (p := ⟨w.heap.size + 1, 0, none⟩) (by simp) _) hb2) hb3) hb4) hb5⟩


set_option maxRecDepth 100000 in
set_option maxHeartbeats 4000000 in
theorem apart_long (k k' : UInt8) (N M : Int) (s t : ByteArray) (w : World) (hs : s.size ≤ 140737488351232) (ht : t.size ≤ 140737488351232) (hl : 100000 < s.size + t.size) :
    Calls Try.prog 6 #[.agg #[.int .u8 (k.toNat : Int), .int .i64 N, .string s], .agg #[.int .u8 (k'.toNat : Int), .int .i64 M, .string t]] w fun e w' => e = .returned (.bool true) ∧ Below w.heap.size w w' := by
  have h1 : (100000 : Int) < (s.size : Int) + (t.size : Int) := by omega
  have h2 : (s.size : Int) ≤ 140737488351232 := by omega
  have h3 : (t.size : Int) ≤ 140737488351232 := by omega
  clear hs ht hl
  go_enter Try.func6, Try.ntmps6
  go_wp2_with (first
    | (go_at_call 11; ((with_reducible refine (works_any _).mono ?_); have hbz := hb1.size; rintro e w2 ⟨rfl, hb2⟩))
    | (go_at_call 11; ((with_reducible refine (works_any _).mono ?_); rintro e w1 ⟨rfl, hb1⟩; obtain ⟨hA1, hB1⟩ := bk_two hb1; obtain ⟨a0, a1, a2, af, _⟩ := bk_cells hA1; obtain ⟨b0, b1, b2, bf, _⟩ := bk_cells hB1)))
  go_ret
  exact ⟨rfl, seq (seq (seq_alloc (seq_alloc (Below.refl _ _) _) _) hb1) hb2⟩

theorem mayB_kind {k : UInt8} {N : Int} {s s' : ByteArray} : mayB ⟨k, N, s⟩ = mayB ⟨k, N, s'⟩ := rfl

theorem apart_walk {w : World} (a : Th) (ha : a.ok) (b : Th) (hb : b.ok) :
    Calls Try.prog 6 #[a.val, b.val] w fun e w' => e = .returned (.bool true) ∧ Below w.heap.size w w' := by
  obtain ⟨k, N, s⟩ := a
  obtain ⟨k', M, t⟩ := b
  have hb' : Th.ok ⟨k, M, t⟩ := hb
  unfold Th.val
  simp only
  rcases Nat.lt_or_ge 100000 (s.size + t.size) with hl | hl
  · exact apart_long k k' N M s t w ha.2.2 hb.2.2 hl
  · cases ma : mayB ⟨k, N, s⟩ with
    | false => exact apart_no1 k k' N M s t w ha hb' hl ma
    | true =>
      cases mb : mayB ⟨k, M, t⟩ with
      | false => exact apart_no2 k k' N M s t w ha hb' hl ma mb
      | true => exact apart_core k k' N M s t w ha hb' hl ma mb

end Go.Proofs.Ytafdglicbddicaa
