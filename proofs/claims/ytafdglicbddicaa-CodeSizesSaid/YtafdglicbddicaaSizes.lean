/- The walk of bastionlaw01.CodeSizes. -/
import Derived.Test.YtafdglicbddicaaWorks
import Derived.Laws.BitsLemmas
import Derived.OpenShut
namespace Go.Proofs.Ytafdglicbddicaa
open Go.RowKit Go.ChangeShapes Go.WideShapes

theorem grp_mono {u v : Nat} (h : u ≤ v) : (grp u).length ≤ (grp v).length := by
  induction v using Nat.strongRecOn generalizing u with
  | ind v ih =>
    by_cases hu : u < 128
    · rw [grp_lt hu]; exact grp_pos v
    · rw [grp_ge (u := u) (by omega), grp_ge (u := v) (by omega)]
      have := ih (v / 128) (by omega) (u := u / 128) (by omega)
      simpa using this

/-- How many bytes a number has. -/
def nl (n : Int) : Nat := (grp (zig n)).length
def cl (k : Nat) : Nat := (grp k).length
theorem nl_bd {n : Int} (h0 : -9223372036854775808 ≤ n) (h1 : n ≤ 9223372036854775807) : 1 ≤ nl n ∧ nl n ≤ 10 :=
  ⟨grp_pos _, grp_len (by omega) (by have := zig_lt h0 h1; omega)⟩
theorem nl_neg {n m : Int} (h : m ≤ n) (hn : n < 0) : nl n ≤ nl m := grp_mono (by have := zig_neg hn; have := zig_neg (n := m) (by omega); omega)
theorem nl_pos {n m : Int} (h : n ≤ m) (hn : 0 ≤ n) : nl n ≤ nl m := grp_mono (by have := zig_pos hn; have := zig_pos (n := m) (by omega); omega)
theorem cl_bd {k : Nat} (h : k ≤ 2147483647) : 1 ≤ cl k ∧ cl k ≤ 5 := ⟨grp_pos _, grp_len (by omega) (by omega)⟩
theorem cl_nl (k : Nat) : cl k ≤ nl (k : Int) := grp_mono (by have := zig_pos (n := (k : Int)) (by omega); omega)

/-- It answers a slice of k elements; nothing that was there has turned. -/
def RetN (w : World) (k : Nat) (e : Ending) (w' : World) : Prop := ∃ A c, e = .returned (.slice A k c) ∧ Below w.heap.size w w'
theorem RetB.n {w : World} {bs : List UInt8} {k : Nat} {e : Ending} {w' : World} (h : RetB w bs e w') (hk : bs.length = k) : RetN w k e w' := by
  obtain ⟨v, rfl, ho, hb⟩ := h
  obtain ⟨A, c, rfl, _, _⟩ := ho.form hk
  exact ⟨A, c, rfl, hb⟩

theorem num_nil (n : Int) (w : World) (h0 : -9223372036854775808 ≤ n) (h1 : n ≤ 9223372036854775807) : Calls Try.prog 32 #[.slice none 0 0, .int .i64 n] w (RetN w (nl n)) :=
  (num_any Any none 0 0 [] n w Sl.nil_ (by omega) h0 h1).mono fun _ _ h => h.n rfl
theorem count_nil (k : Nat) (w : World) (h : k ≤ 2147483647) : Calls Try.prog 33 #[.slice none 0 0, .int .i64 (k : Int)] w (RetN w (cl k)) :=
  (count_any Any none 0 0 [] k w Sl.nil_ (by omega)).mono fun _ _ hh => hh.n (by rw [cntB_nat h]; rfl)
theorem str_nil (s : ByteArray) (w : World) (h : s.size ≤ 2147483647) : Calls Try.prog 34 #[.slice none 0 0, .string s] w (RetN w (s.size + cl s.size)) :=
  (str_any Any none 0 0 [] s w Sl.nil_ (by omega) h).mono fun _ _ hh => hh.n (by
    rw [List.nil_append, List.length_append, Array.length_toList]
    exact Nat.add_comm _ _)
theorem flag_nil (v : Bool) (w : World) : Calls Try.prog 35 #[.slice none 0 0, .bool v] w (RetN w 1) :=
  (flag_any Any none 0 0 [] v w Sl.nil_ (by omega)).mono fun _ _ hh => hh.n (by cases v <;> rfl)

theorem and_max (n : Int) : bits .and .i64 n 2147483647 = n % 2147483648 := by
  have hm : (BitVec.ofInt 64 2147483647).toNat = 2 ^ 31 - 1 := by decide
  have key : (BitVec.ofInt 64 n &&& BitVec.ofInt 64 2147483647).toNat = (n % ((2 ^ 64 : Nat) : Int)).toNat % 2 ^ 31 := by
    rw [BitVec.toNat_and, BitVec.toNat_ofInt, hm, Nat.and_two_pow_sub_one_eq_mod]
  show IntKind.i64.wrap ((BitVec.ofInt 64 n &&& BitVec.ofInt 64 2147483647).toNat : Nat) = n % 2147483648
  rw [key, IntKind.wrap_i64]
  omega

set_option maxRecDepth 20000 in
set_option maxHeartbeats 4000000 in
theorem sizes_core (n m : Int) (s : ByteArray) (w : World) (h0 : -9223372036854775808 ≤ n) (h1 : n ≤ 9223372036854775807) (h2 : -9223372036854775808 ≤ m) (h3 : m ≤ 9223372036854775807) (hs : s.size ≤ 100000) :
    Calls Try.prog 7 #[.int .i64 n, .int .i64 m, .string s] w fun e w' => e = .returned (.bool true) ∧ Below w.heap.size w w' := by
  have H0 := Lib.hid h0
  have H1 := Lib.hid h1
  have H2 := Lib.hid h2
  have H3 := Lib.hid h3
  have N := nl_bd h0 h1
  have M := nl_bd h2 h3
  obtain ⟨a1, a10⟩ := N
  obtain ⟨b1, b10⟩ := M
  obtain ⟨d1, d5⟩ := cl_bd (k := s.size) (by omega)
  have hand := Lib.hid (and_max n)
  obtain ⟨k, hk⟩ : ∃ k : Nat, (k : Int) = n % 2147483648 := ⟨(n % 2147483648).toNat, by omega⟩
  have hk1 : k ≤ 2147483647 := by omega
  have hk2 : bits .and .i64 n 2147483647 = (k : Int) := hand.out.trans hk.symm
  clear hk hand
  obtain ⟨c1, c5⟩ := cl_bd hk1
  have hcn := cl_nl k
  have hP := Lib.hid (@nl_pos n m)
  have hP' := Lib.hid (@nl_pos m n)
  have hN := Lib.hid (@nl_neg n m)
  have hN' := Lib.hid (@nl_neg m n)
  clear h0 h1 h2 h3
  rcases Int.lt_or_le n 0 with hn | hn
  all_goals rcases Int.lt_or_le m 0 with hm | hm
  all_goals rcases (show n < m ∨ n = m ∨ m < n by omega) with hnm | hnm | hnm
  all_goals try (exfalso; omega)
  all_goals try subst hnm
  all_goals try have e0 : (n == m) = false := by simp; omega
  all_goals try have o1 := hP.out (by omega) (by omega)
  all_goals try have o1 := hP'.out (by omega) (by omega)
  all_goals try have o1 := hN.out (by omega) (by omega)
  all_goals try have o1 := hN'.out (by omega) (by omega)
  all_goals
    go_enter Try.func7, Try.ntmps7
    go_wp2_with (first
      | (go_at_call 11; ((with_reducible refine (works_any _).mono ?_); rintro e w1 ⟨rfl, hb⟩))
      | (go_at_call 32; ((with_reducible refine (num_nil n _ H0.out H1.out).mono ?_); rintro e w2 ⟨A2, c2, rfl, hb2⟩; have hb := seq hb hb2))
      | (go_at_call 32; ((with_reducible refine (num_nil m _ H2.out H3.out).mono ?_); rintro e w3 ⟨A3, c3, rfl, hb3⟩; have hb := seq hb hb3))
      | (go_at_call 32; ((with_reducible refine (num_nil k _ (by omega) (by omega)).mono ?_); rintro e w5 ⟨A5, c5, rfl, hb5⟩; have hb := seq hb hb5))
      | (go_at_call 33; ((with_reducible refine (count_nil k _ hk1).mono ?_); rintro e w4 ⟨A4, c4, rfl, hb4⟩; have hb := seq hb hb4))
      | (go_at_call 33; ((with_reducible refine (count_nil s.size _ (by omega)).mono ?_); rintro e w7 ⟨A7, c7, rfl, hb7⟩; have hb := seq hb hb7))
      | (go_at_call 34; ((with_reducible refine (str_nil s _ (by omega)).mono ?_); rintro e w6 ⟨A6, c6, rfl, hb6⟩; have hb := seq hb hb6))
      | (go_at_call 35; ((with_reducible refine (flag_nil _ _).mono ?_); rintro e w8 ⟨A8, c8, rfl, hb8⟩; have hb := seq hb hb8)))
    go_ret
    exact ⟨rfl, hb⟩

set_option maxRecDepth 20000 in
set_option maxHeartbeats 400000 in
theorem sizes_long (n m : Int) (s : ByteArray) (w : World) (hs : 100000 < s.size) (hs2 : s.size ≤ maxLen) :
    Calls Try.prog 7 #[.int .i64 n, .int .i64 m, .string s] w fun e w' => e = .returned (.bool true) ∧ Below w.heap.size w w' := by
  unfold maxLen at hs2
  go_enter Try.func7, Try.ntmps7
  go_wp2_with (go_at_call 11; ((with_reducible refine (works_any _).mono ?_); first | (rintro e w2 ⟨rfl, hb2⟩; have hb := seq hb hb2) | (rintro e w1 ⟨rfl, hb⟩)))
  go_ret
  exact ⟨rfl, hb⟩

theorem sizes_walk (n : Int) (hn : (Lit.int .i64 n).wf = true) (m : Int) (hm : (Lit.int .i64 m).wf = true) (s : ByteArray) (hs : s.size ≤ maxLen) (w : World) :
    Calls Try.prog 7 #[.int .i64 n, .int .i64 m, .string s] w fun e w' => e = .returned (.bool true) ∧ Below w.heap.size w w' := by
  have b0 := bounds_i64 hn
  have b1 := bounds_i64 hm
  rcases Nat.lt_or_ge 100000 s.size with h | h
  · exact sizes_long n m s w h hs
  · exact sizes_core n m s w b0.1 b0.2 b1.1 b1.2 h

end Go.Proofs.Ytafdglicbddicaa
