/- The walk of bastionlaw01.CodeApart. -/
import Derived.Test.YtafdglicbddicaaMore
import Derived.Deep.RegionHeld3
namespace Go.Proofs.Ytafdglicbddicaa
open Go.RowKit

/-- May the thing be laid? -/
def mayB (t : Th) : Bool := decide (t.k.toNat ≠ 1) || isC t.n

set_option maxRecDepth 100000 in
set_option maxHeartbeats 1000000 in
theorem may_is {v : Bool} (k : UInt8) (N : Int) (s : ByteArray) (w : World) (hv : mayB ⟨k, N, s⟩ = v) :
    Calls Try.prog 30 #[.agg #[.int .u8 (k.toNat : Int), .int .i64 N, .string s]] w fun e w' => e = .returned (.bool v) ∧ Below w.heap.size w w' := by
  have hal : ∀ o, Below w.heap.size w (w.alloc o) := fun o => (Below.refl _ _).alloc (Nat.le_refl _) _
  have HA := Lib.hid hal
  obtain ⟨q, hq⟩ : ∃ q, q = k.toNat := ⟨_, rfl⟩
  have HV : Hid ((decide (q ≠ 1) || isC N) = v) := Lib.hid (by rw [hq]; exact hv)
  rw [← hq]
  clear hal hv hq
  by_cases h1 : q = 1
  · subst h1
    rcases Int.lt_or_le N 0 with h0 | h0
    · go_enter Try.func30, Try.ntmps30
      go_wp2
      go_ret
      exact ⟨ret_bool (by rw [← HV.out]; unfold isC; simp; omega), HA.out _⟩
    · rcases Int.lt_or_le 2147483647 N with h2 | h2
      all_goals
        go_enter Try.func30, Try.ntmps30
        go_wp2
        go_ret
        exact ⟨ret_bool (by rw [← HV.out]; unfold isC; simp; omega), HA.out _⟩
  · have e1 : ((q : Int) == 1) = false := by simp; omega
    have e2 : ((q : Int) != 1) = true := by simp; omega
    have H1 := Lib.hid h1
    clear h1
    go_enter Try.func30, Try.ntmps30
    go_wp2
    go_ret
    exact ⟨ret_bool (by rw [← HV.out]; simp [H1.out]), HA.out _⟩

def begB (s t : ByteArray) : Bool := decide (t.size ≤ s.size) && (s.extract 0 t.size).toList == t.toList

set_option maxRecDepth 100000 in
set_option maxHeartbeats 1000000 in
theorem begins_is {v : Bool} (s t : ByteArray) (w : World) (hs : s.size ≤ 9223372036854775807) (ht : t.size ≤ 9223372036854775807) (hv : begB s t = v) :
    Calls Try.prog 31 #[.string s, .string t] w fun e w' => e = .returned (.bool v) ∧ w = w' := by
  have hs' : (s.size : Int) ≤ 9223372036854775807 := by omega
  have ht' : (t.size : Int) ≤ 9223372036854775807 := by omega
  have HV := Lib.hid hv
  clear hs ht hv
  rcases Nat.lt_or_ge s.size t.size with h | h
  · go_enter Try.func31, Try.ntmps31
    go_wp2
    go_ret
    exact ⟨ret_bool (by rw [← HV.out]; unfold begB; simp; omega), rfl⟩
  · go_enter Try.func31, Try.ntmps31
    go_wp2
    go_ret
    exact ⟨ret_bool (by rw [← HV.out]; unfold begB; simp [h]), rfl⟩

theorem begB_iff (x y : List UInt8) : begB ⟨x.toArray⟩ ⟨y.toArray⟩ = true ↔ y <+: x := by
  have e : ((ByteArray.mk x.toArray).extract 0 (ByteArray.mk y.toArray).size).toList = x.take y.length := by
    rw [ByteArray.toList_eq, ByteArray.data_extract]
    show (x.toArray.extract 0 y.toArray.size).toList = _
    simp
  unfold begB
  rw [e, ByteArray.toList_mk, List.prefix_iff_eq_take]
  show (decide (y.toArray.size ≤ x.toArray.size) && _) = true ↔ _
  simp only [List.size_toArray, Bool.and_eq_true, decide_eq_true_eq, beq_iff_eq]
  constructor
  · intro h; exact h.2.symm
  · intro h
    have := congrArg List.length h
    simp at this
    exact ⟨by omega, h.symm⟩

theorem grp_free {u v : Nat} (hu : u < 18446744073709551616) (hv : v < 18446744073709551616) {l : List UInt8} (h : grp u <+: l) (k : grp v <+: l) : u = v := by
  have h1 := gat_some hu h
  have h2 := gat_some hv k
  rw [h1] at h2
  exact congrArg Prod.fst h2

def sameB (a b : Th) : Bool := if a.k.toNat = 2 then a.s.toList == b.s.toList else if 2 < a.k.toNat then (a.n.tmod 2 != 0) == (b.n.tmod 2 != 0) else a.n == b.n

theorem bytes_free (k : UInt8) (N M : Int) (s t : ByteArray) (ha : Th.ok ⟨k, N, s⟩) (hb : Th.ok ⟨k, M, t⟩) (ma : mayB ⟨k, N, s⟩ = true) (mb : mayB ⟨k, M, t⟩ = true) :
    (Th.bytes ⟨k, N, s⟩ <+: Th.bytes ⟨k, M, t⟩) ↔ sameB ⟨k, N, s⟩ ⟨k, M, t⟩ = true := by
  obtain ⟨a0, a1, a2⟩ := ha
  obtain ⟨b0, b1, b2⟩ := hb
  simp only at a0 a1 a2 b0 b1 b2
  unfold sameB
  simp only
  by_cases h0 : k.toNat = 0
  · rw [Th.b0 (t := ⟨k, N, s⟩) h0, Th.b0 (t := ⟨k, M, t⟩) h0, if_neg (by omega), if_neg (by omega)]
    constructor
    · intro h
      have := grp_free (zig_lt a0 a1) (zig_lt b0 b1) h (List.prefix_refl _)
      have := congrArg unz this
      rw [unz_zig, unz_zig] at this
      simp [this]
    · intro h
      have : N = M := by simpa using h
      rw [this]; exact List.prefix_refl _
  · by_cases h1 : k.toNat = 1
    · have m1 : isC N = true := by simpa [mayB, h1] using ma
      have m2 : isC M = true := by simpa [mayB, h1] using mb
      have i1 := isC_iff.1 m1
      have i2 := isC_iff.1 m2
      rw [Th.b1 (t := ⟨k, N, s⟩) h1, Th.b1 (t := ⟨k, M, t⟩) h1, if_neg (by omega), if_neg (by omega)]
      simp only [cntB, m1, m2, if_true]
      constructor
      · intro h
        have := grp_free (u := N.toNat) (v := M.toNat) (by omega) (by omega) h (List.prefix_refl _)
        have : N = M := by omega
        simp [this]
      · intro h
        have : N = M := by simpa using h
        rw [this]; exact List.prefix_refl _
    · by_cases h2 : k.toNat = 2
      · rw [Th.b2 (t := ⟨k, N, s⟩) h2, Th.b2 (t := ⟨k, M, t⟩) h2, if_pos h2]
        simp only
        rw [ByteArray.toList_eq, ByteArray.toList_eq]
        constructor
        · intro h
          have hg := grp_free (u := s.size) (v := t.size) (by omega) (by omega) ((List.prefix_append _ _).trans h) (List.prefix_append _ _)
          rw [hg] at h
          have h3 := (List.prefix_append_right_inj _).1 h
          have h4 := h3.eq_of_length (by simpa using hg)
          simp [h4]
        · intro h
          have h4 : s.data.toList = t.data.toList := by simpa using h
          have h5 : s.size = t.size := by simpa using congrArg List.length h4
          rw [h4, h5]; exact List.prefix_refl _
      · have h3 : 2 < k.toNat := by omega
        rw [Th.b3 (t := ⟨k, N, s⟩) h3, Th.b3 (t := ⟨k, M, t⟩) h3, if_neg h2, if_pos h3]
        simp only
        cases (N.tmod 2 != 0) <;> cases (M.tmod 2 != 0) <;> simp [flagB]

theorem bytes_pos (t : Th) (hm : mayB t = true) : t.bytes ≠ [] := by
  by_cases h0 : t.k.toNat = 0
  · rw [Th.b0 h0]; exact grp_ne _
  · by_cases h1 : t.k.toNat = 1
    · have m1 : isC t.n = true := by simpa [mayB, h1] using hm
      rw [Th.b1 h1, cntB, if_pos m1]; exact grp_ne _
    · by_cases h2 : t.k.toNat = 2
      · rw [Th.b2 h2]
        intro h
        exact grp_ne _ (List.append_eq_nil_iff.1 h).1
      · rw [Th.b3 (by omega)]
        cases (t.n.tmod 2 != 0) <;> simp [flagB]

theorem bytes_len (t : Th) (ho : t.ok) (hl : t.s.size ≤ 100000) : t.bytes.length ≤ 1000000 := by
  obtain ⟨a0, a1, _⟩ := ho
  by_cases h0 : t.k.toNat = 0
  · rw [Th.b0 h0]
    have := grp_len (k := 10) (by omega) (u := zig t.n) (by have := zig_lt a0 a1; omega)
    omega
  · by_cases h1 : t.k.toNat = 1
    · rw [Th.b1 h1, cntB]
      split
      · rename_i hc
        have := isC_iff.1 hc
        have := grp_len (k := 10) (by omega) (u := t.n.toNat) (by omega)
        omega
      · simp
    · by_cases h2 : t.k.toNat = 2
      · rw [Th.b2 h2, List.length_append]
        have := grp_len (k := 10) (by omega) (u := t.s.size) (by omega)
        have e : t.s.data.toList.length = t.s.size := Array.length_toList
        omega
      · rw [Th.b3 (by omega)]
        cases (t.n.tmod 2 != 0) <;> simp [flagB]
theorem sameB_comm (k : UInt8) (N M : Int) (s t : ByteArray) : sameB ⟨k, M, t⟩ ⟨k, N, s⟩ = sameB ⟨k, N, s⟩ ⟨k, M, t⟩ := by
  unfold sameB
  simp only
  split
  · exact BEq.comm
  · split
    · exact BEq.comm
    · exact BEq.comm

end Go.Proofs.Ytafdglicbddicaa
