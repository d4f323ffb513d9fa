/- What the methods of a code.Reader do: those that take things off. -/
import Derived.Test.YtafdglicbddicaaCodeC
namespace Go.Proofs.Ytafdglicbddicaa
open Go.RowKit

theorem fAt_len (bs : List UInt8) : (fAt bs).2 ≤ bs.length := by
  cases bs with
  | nil => exact Nat.le_refl _
  | cons c r =>
    show (if 1 < c.toNat then (false, 0) else (c == 1, 1)).2 ≤ _
    split <;> simp
theorem sAt_len (bs : List UInt8) (most : Int) : (sAt bs most).2 ≤ bs.length := by
  unfold sAt
  split
  · simp
  · simp; omega

set_option maxRecDepth 20000 in
set_option maxHeartbeats 400000 in
theorem takeFlag_any (w : World) (g : Nat) {lo : Nat} (bs : List UInt8) (f : Bool) (hr : Rdr w g lo bs f) :
    Calls Try.prog 47 #[.pointer (some ⟨g, 0, none⟩), .func (.func 48) #[] #[]] w (Took w g lo (.bool (got (stp bs f (fAt bs).2).2 false (fAt bs).1)) (stp bs f (fAt bs).2)) := by
  have hok := Lib.hid (ok_any w g bs f hr)
  have hfa := Lib.hid (fail_any w g bs f hr)
  have hpa := Lib.hid (pass_any w g bs f (fAt bs).2 hr (fAt_len bs))
  have hr0 := Lib.hid hr
  obtain ⟨A, n, c, hB, hs, hcap, hn⟩ := hr
  have c0 := hB.cell 0
  simp only [List.getElem?_toArray, List.getElem?_cons_zero] at c0
  have hlk := Lib.hid (flagAt_any _ A n c bs w hs hn)
  clear hs hB
  obtain ⟨u, k, hu⟩ : ∃ u k, fAt bs = (u, k) := ⟨_, _, rfl⟩
  rw [hu] at hlk hpa ⊢
  clear hu
  cases f with
  | true =>
    go_enter Try.func47, Try.ntmps47
    go_wp2_with (go_at_call 12; go_loud (refine hok.out.mono ?_); rintro e w1 ⟨rfl, rfl⟩)
    go_ret
    exact ⟨rfl, hr0.out, by_refl _ _⟩
  | false =>
    by_cases hk : k = 0
    · subst hk
      go_enter Try.func47, Try.ntmps47
      go_wp2_with (first
        | (go_at_call 12; go_loud (refine hok.out.mono ?_); rintro e w1 ⟨rfl, rfl⟩)
        | (go_at_call 48; go_loud (refine hlk.out.mono ?_); rintro e w1 ⟨rfl, rfl⟩)
        | (go_at_call 62; go_loud (refine hfa.out.mono ?_); rintro e w1 ⟨rfl, hr1, hg1⟩))
      go_ret
      exact ⟨rfl, hr1, hg1⟩
    · have e0 : ((k : Int) == 0) = false := by simp; omega
      have hst := Lib.hid (show stp bs false k = (bs.drop k, false) by simp [stp, hk])
      clear hk
      go_enter Try.func47, Try.ntmps47
      go_wp2_with (first
        | (go_at_call 12; go_loud (refine hok.out.mono ?_); rintro e w1 ⟨rfl, rfl⟩)
        | (go_at_call 48; go_loud (refine hlk.out.mono ?_); rintro e w1 ⟨rfl, rfl⟩)
        | (go_at_call 63; go_loud (refine hpa.out.mono ?_); rintro e w1 ⟨rfl, hr1, hg1⟩))
      go_ret
      rw [hst.out]
      exact ⟨rfl, hr1, hg1⟩

set_option maxRecDepth 20000 in
set_option maxHeartbeats 400000 in
theorem countLook {g lo : Nat} (A : Option Addr) (n c b : Nat) (bs : List UInt8) (most : Int) (w : World) (hs : SlB w (fun k => lo ≤ k ∧ k < g) A n bs) (hb : Bk w b 3 #[.int .i64 most]) (hn : n ≤ 1000000000000) (_hcap : n ≤ c) (h0 : -9223372036854775808 ≤ most) (h1 : most ≤ 9223372036854775807) :
    Calls Try.prog 42 #[.slice A n c, .pointer (some ⟨b, 0, none⟩)] w fun e w' => e = .returned (.tuple #[.int .i64 ((cAt bs most).1 : Int), .int .i64 ((cAt bs most).2 : Int)]) ∧ w = w' := by
  have c0 := cell_of_one hb
  have hlk := Lib.hid (countAt_any _ A n c bs most w hs hn h0 h1)
  go_enter Try.func42, Try.ntmps42
  go_wp2_with (go_at_call 43; go_loud (refine hlk.out.mono ?_); rintro e w1 ⟨rfl, rfl⟩)
  go_ret2
  exact ⟨rfl, rfl⟩

set_option maxRecDepth 20000 in
set_option maxHeartbeats 400000 in
theorem strLook {g lo : Nat} (A : Option Addr) (n c b : Nat) (bs : List UInt8) (most : Int) (w : World) (hs : SlB w (fun k => lo ≤ k ∧ k < g) A n bs) (hb : Bk w b 3 #[.int .i64 most]) (hn : n ≤ 1000000000000) (hcap : n ≤ c) (h0 : -9223372036854775808 ≤ most) (h1 : most ≤ 9223372036854775807) :
    Calls Try.prog 45 #[.slice A n c, .pointer (some ⟨b, 0, none⟩)] w fun e w' => e = .returned (.tuple #[.string ⟨(sAt bs most).1.toArray⟩, .int .i64 ((sAt bs most).2 : Int)]) ∧ w = w' := by
  have c0 := cell_of_one hb
  have hlk := Lib.hid (strAt_any _ A n c bs most w hs hn hcap h0 h1)
  go_enter Try.func45, Try.ntmps45
  go_wp2_with (go_at_call 46; go_loud (refine hlk.out.mono ?_); rintro e w1 ⟨rfl, rfl⟩)
  go_ret2
  exact ⟨rfl, rfl⟩

theorem cAt_len (bs : List UInt8) (most : Int) : (cAt bs most).2 ≤ bs.length := (cAt_le bs most).2.2

set_option maxRecDepth 20000 in
set_option maxHeartbeats 400000 in
theorem takeCount_any (w : World) (g b : Nat) {lo : Nat} (bs : List UInt8) (f : Bool) (most : Int) (hr : Rdr w g lo bs f) (hb : Bk w b 3 #[.int .i64 most]) (h0 : -9223372036854775808 ≤ most) (h1 : most ≤ 9223372036854775807) :
    Calls Try.prog 41 #[.pointer (some ⟨g, 0, none⟩), .func (.func 42) #[] #[.pointer (some ⟨b, 0, none⟩)]] w (Took w g lo (.int .i64 (got (stp bs f (cAt bs most).2).2 0 ((cAt bs most).1 : Int))) (stp bs f (cAt bs most).2)) := by
  have hok := Lib.hid (ok_any w g bs f hr)
  have hfa := Lib.hid (fail_any w g bs f hr)
  have hpa := Lib.hid (pass_any w g bs f (cAt bs most).2 hr (cAt_len bs most))
  have hr0 := Lib.hid hr
  obtain ⟨A, n, c, hB, hs, hcap, hn⟩ := hr
  have c0 := hB.cell 0
  simp only [List.getElem?_toArray, List.getElem?_cons_zero] at c0
  have hlk := Lib.hid (countLook A n c b bs most w hs hb hn hcap h0 h1)
  clear hs hB
  obtain ⟨u, k, hu⟩ : ∃ u k, cAt bs most = (u, k) := ⟨_, _, rfl⟩
  rw [hu] at hlk hpa ⊢
  clear hu
  cases f with
  | true =>
    go_enter Try.func41, Try.ntmps41
    go_wp2_with (go_at_call 12; go_loud (refine hok.out.mono ?_); rintro e w1 ⟨rfl, rfl⟩)
    go_ret
    exact ⟨rfl, hr0.out, by_refl _ _⟩
  | false =>
    by_cases hk : k = 0
    · subst hk
      go_enter Try.func41, Try.ntmps41
      go_wp2_with (first
        | (go_at_call 12; go_loud (refine hok.out.mono ?_); rintro e w1 ⟨rfl, rfl⟩)
        | (go_at_call 42; go_loud (refine hlk.out.mono ?_); rintro e w1 ⟨rfl, rfl⟩)
        | (go_at_call 62; go_loud (refine hfa.out.mono ?_); rintro e w1 ⟨rfl, hr1, hg1⟩))
      go_ret
      exact ⟨rfl, hr1, hg1⟩
    · have e0 : ((k : Int) == 0) = false := by simp; omega
      have hst := Lib.hid (show stp bs false k = (bs.drop k, false) by simp [stp, hk])
      clear hk
      go_enter Try.func41, Try.ntmps41
      go_wp2_with (first
        | (go_at_call 12; go_loud (refine hok.out.mono ?_); rintro e w1 ⟨rfl, rfl⟩)
        | (go_at_call 42; go_loud (refine hlk.out.mono ?_); rintro e w1 ⟨rfl, rfl⟩)
        | (go_at_call 63; go_loud (refine hpa.out.mono ?_); rintro e w1 ⟨rfl, hr1, hg1⟩))
      go_ret
      rw [hst.out]
      exact ⟨rfl, hr1, hg1⟩

set_option maxRecDepth 20000 in
set_option maxHeartbeats 400000 in
theorem takeStr_any (w : World) (g b : Nat) {lo : Nat} (bs : List UInt8) (f : Bool) (most : Int) (hr : Rdr w g lo bs f) (hb : Bk w b 3 #[.int .i64 most]) (h0 : -9223372036854775808 ≤ most) (h1 : most ≤ 9223372036854775807) :
    Calls Try.prog 44 #[.pointer (some ⟨g, 0, none⟩), .func (.func 45) #[] #[.pointer (some ⟨b, 0, none⟩)]] w (Took w g lo (.string ⟨(got (stp bs f (sAt bs most).2).2 [] (sAt bs most).1).toArray⟩) (stp bs f (sAt bs most).2)) := by
  have hok := Lib.hid (ok_any w g bs f hr)
  have hfa := Lib.hid (fail_any w g bs f hr)
  have hpa := Lib.hid (pass_any w g bs f (sAt bs most).2 hr (sAt_len bs most))
  have hr0 := Lib.hid hr
  obtain ⟨A, n, c, hB, hs, hcap, hn⟩ := hr
  have c0 := hB.cell 0
  simp only [List.getElem?_toArray, List.getElem?_cons_zero] at c0
  have hlk := Lib.hid (strLook A n c b bs most w hs hb hn hcap h0 h1)
  clear hs hB
  obtain ⟨u, k, hu⟩ : ∃ u k, sAt bs most = (u, k) := ⟨_, _, rfl⟩
  rw [hu] at hlk hpa ⊢
  clear hu
  cases f with
  | true =>
    go_enter Try.func44, Try.ntmps44
    go_wp2_with (go_at_call 12; go_loud (refine hok.out.mono ?_); rintro e w1 ⟨rfl, rfl⟩)
    go_ret
    exact ⟨rfl, hr0.out, by_refl _ _⟩
  | false =>
    by_cases hk : k = 0
    · subst hk
      go_enter Try.func44, Try.ntmps44
      go_wp2_with (first
        | (go_at_call 12; go_loud (refine hok.out.mono ?_); rintro e w1 ⟨rfl, rfl⟩)
        | (go_at_call 45; go_loud (refine hlk.out.mono ?_); rintro e w1 ⟨rfl, rfl⟩)
        | (go_at_call 62; go_loud (refine hfa.out.mono ?_); rintro e w1 ⟨rfl, hr1, hg1⟩))
      go_ret
      exact ⟨rfl, hr1, hg1⟩
    · have e0 : ((k : Int) == 0) = false := by simp; omega
      have hst := Lib.hid (show stp bs false k = (bs.drop k, false) by simp [stp, hk])
      clear hk
      go_enter Try.func44, Try.ntmps44
      go_wp2_with (first
        | (go_at_call 12; go_loud (refine hok.out.mono ?_); rintro e w1 ⟨rfl, rfl⟩)
        | (go_at_call 45; go_loud (refine hlk.out.mono ?_); rintro e w1 ⟨rfl, rfl⟩)
        | (go_at_call 63; go_loud (refine hpa.out.mono ?_); rintro e w1 ⟨rfl, hr1, hg1⟩))
      go_ret
      rw [hst.out]
      exact ⟨rfl, hr1, hg1⟩

set_option maxRecDepth 20000 in
set_option maxHeartbeats 400000 in
theorem rNum_any (w : World) (g : Nat) {lo : Nat} (bs : List UInt8) (f : Bool) (hr : Rdr w g lo bs f) :
    Calls Try.prog 15 #[.pointer (some ⟨g, 0, none⟩)] w (Took w g lo (.int .i64 (got (stp bs f (gat bs).2).2 0 (unz (gat bs).1))) (stp bs f (gat bs).2)) := by
  have ht := Lib.hid (takeNum_any w g bs f hr)
  go_enter Try.func15, Try.ntmps15
  go_wp2_with (go_at_call 39; go_loud (refine ht.out.mono ?_); rintro e w1 ⟨rfl, hr1, hg1⟩)
  go_ret
  exact ⟨rfl, hr1, hg1⟩

set_option maxRecDepth 20000 in
set_option maxHeartbeats 400000 in
theorem rFlag_any (w : World) (g : Nat) {lo : Nat} (bs : List UInt8) (f : Bool) (hr : Rdr w g lo bs f) :
    Calls Try.prog 18 #[.pointer (some ⟨g, 0, none⟩)] w (Took w g lo (.bool (got (stp bs f (fAt bs).2).2 false (fAt bs).1)) (stp bs f (fAt bs).2)) := by
  have ht := Lib.hid (takeFlag_any w g bs f hr)
  go_enter Try.func18, Try.ntmps18
  go_wp2_with (go_at_call 47; go_loud (refine ht.out.mono ?_); rintro e w1 ⟨rfl, hr1, hg1⟩)
  go_ret
  exact ⟨rfl, hr1, hg1⟩

set_option maxRecDepth 20000 in
set_option maxHeartbeats 400000 in
theorem rCount_any (w : World) (g : Nat) {lo : Nat} (bs : List UInt8) (f : Bool) (most : Int) (hr : Rdr w g lo bs f) (h0 : -9223372036854775808 ≤ most) (h1 : most ≤ 9223372036854775807) :
    Calls Try.prog 16 #[.pointer (some ⟨g, 0, none⟩), .int .i64 most] w (Took w g lo (.int .i64 (got (stp bs f (cAt bs most).2).2 0 ((cAt bs most).1 : Int))) (stp bs f (cAt bs most).2)) := by
  have ht := Lib.hid (takeCount_any (w.alloc (.cells #[.int .i64 most] 3)) g w.heap.size bs f most (hr.keep ((Below.refl _ _).alloc (Nat.le_refl _) _)) (Bk.new w _ _) h0 h1)
  go_enter Try.func16, Try.ntmps16
  go_wp2_with (go_at_call 41; go_loud (refine ht.out.mono ?_); rintro e w1 ⟨rfl, hr1, hg1⟩)
  go_ret
  exact ⟨rfl, hr1, by_trans (by_alloc (by_refl _ _) _) hg1⟩

set_option maxRecDepth 20000 in
set_option maxHeartbeats 400000 in
theorem rStr_any (w : World) (g : Nat) {lo : Nat} (bs : List UInt8) (f : Bool) (most : Int) (hr : Rdr w g lo bs f) (h0 : -9223372036854775808 ≤ most) (h1 : most ≤ 9223372036854775807) :
    Calls Try.prog 17 #[.pointer (some ⟨g, 0, none⟩), .int .i64 most] w (Took w g lo (.string ⟨(got (stp bs f (sAt bs most).2).2 [] (sAt bs most).1).toArray⟩) (stp bs f (sAt bs most).2)) := by
  have ht := Lib.hid (takeStr_any (w.alloc (.cells #[.int .i64 most] 3)) g w.heap.size bs f most (hr.keep ((Below.refl _ _).alloc (Nat.le_refl _) _)) (Bk.new w _ _) h0 h1)
  go_enter Try.func17, Try.ntmps17
  go_wp2_with (go_at_call 44; go_loud (refine ht.out.mono ?_); rintro e w1 ⟨rfl, hr1, hg1⟩)
  go_ret
  exact ⟨rfl, hr1, by_trans (by_alloc (by_refl _ _) _) hg1⟩

/-- A reader of its own before the bytes bs. -/
def RetR (w : World) (bs : List UInt8) (e : Ending) (w' : World) : Prop := ∃ g, e = .returned (.pointer (some ⟨g, 0, none⟩)) ∧ Rdr w' g w.heap.size bs false ∧ w.heap.size ≤ g ∧ Below w.heap.size w w'

set_option maxRecDepth 20000 in
set_option maxHeartbeats 400000 in
theorem newReader_any (S : Nat → Prop) (A : Option Addr) (n c : Nat) (bs : List UInt8) (w : World) (hs : SlB w S A n bs) (hn : n ≤ 1000000000000) :
    Calls Try.prog 21 #[.slice A n c] w (RetR w bs) := by
  have HN := Lib.hid hn
  clear hn
  go_enter Try.func21, Try.ntmps21
  go_wp2_with (go_at_call 49; go_loud (refine (own_any S A n c bs _ 0 rfl _ hs (by have := HN.out; omega)).mono ?_); rintro e w1 ⟨v1, rfl, hown1, hb1⟩; obtain ⟨A1, c1, rfl, hc1, hm1⟩ := own_form hown1)
  go_ret
  have hlen := hs.len
  refine ⟨w1.heap.size, rfl, ⟨A1, bs.length, c1, Bk.new _ _ _, ?_, hc1, by have := HN.out; omega⟩, hb1.size, hb1.alloc hb1.size _⟩
  exact Sl.alloc ((Sl.of_own hown1).weaken fun k hk h => ⟨h.1, by omega⟩) _

end Go.Proofs.Ytafdglicbddicaa
