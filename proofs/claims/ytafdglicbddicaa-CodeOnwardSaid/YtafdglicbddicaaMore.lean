/- What stands behind the bytes that are taken off does not matter: plain mathematics, and ask as the walks of the laws take it. -/
import Derived.Test.YtafdglicbddicaaAsk
import Derived.Test.YtafdglicbddicaaLong
namespace Go.Proofs.Ytafdglicbddicaa
open Go.RowKit

theorem gat_more {r : List UInt8} (ms : List UInt8) (h : (gat r).2 ≠ 0) : gat (r ++ ms) = gat r := by
  rcases gat_inv r with h0 | ⟨u, hp, he, hu⟩
  · rw [h0] at h; exact absurd rfl h
  · rw [he]; exact gat_some hu (hp.trans (List.prefix_append r ms))
theorem cAt_more {r : List UInt8} (ms : List UInt8) (most : Int) (h : (cAt r most).2 ≠ 0) : cAt (r ++ ms) most = cAt r most := by
  have hg : (gat r).2 ≠ 0 := by
    intro h0
    apply h
    unfold cAt
    split
    · exact h0
    · rfl
  unfold cAt
  rw [gat_more ms hg]
theorem sAt_more {r : List UInt8} (ms : List UInt8) (most : Int) (h : (sAt r most).2 ≠ 0) : sAt (r ++ ms) most = sAt r most := by
  have hc : ¬ ((cAt r most).2 = 0 ∨ r.length < (cAt r most).2 + (cAt r most).1) := by
    intro h0
    apply h
    unfold sAt
    rw [if_pos h0]
  unfold sAt
  rw [cAt_more ms most (by omega), if_neg hc, if_neg (by rw [List.length_append]; omega)]
  congr 1
  rw [List.drop_append_of_le_length (by omega), List.take_append_of_le_length (by rw [List.length_drop]; omega)]
theorem fAt_more {r : List UInt8} (ms : List UInt8) (h : (fAt r).2 ≠ 0) : fAt (r ++ ms) = fAt r := by
  cases r with
  | nil => exact absurd rfl h
  | cons c r => rfl
theorem sz_more (t : Th) {r : List UInt8} (ms : List UInt8) (h : t.sz r ≠ 0) : t.sz (r ++ ms) = t.sz r ∧ t.tn (r ++ ms) = t.tn r ∧ t.ts (r ++ ms) = t.ts r := by
  unfold Th.sz Th.tn Th.ts at *
  by_cases h0 : t.k.toNat = 0
  · simp only [if_pos h0] at h ⊢
    rw [gat_more ms h]
    simp [h0]
  · simp only [if_neg h0] at h ⊢
    by_cases h1 : t.k.toNat = 1
    · simp only [if_pos h1] at h ⊢
      rw [cAt_more ms _ h]
      simp [h1]
    · simp only [if_neg h1] at h ⊢
      by_cases h2 : t.k.toNat = 2
      · simp only [if_pos h2] at h ⊢
        rw [sAt_more ms _ h]
        simp
      · simp only [if_neg h2] at h ⊢
        rw [fAt_more ms h]
        simp
theorem sz_len (t : Th) (r : List UInt8) : t.sz r ≤ r.length := by
  unfold Th.sz
  split
  · exact gat_len r
  · split
    · exact cAt_len r _
    · split
      · exact sAt_len r _
      · exact fAt_len r

def tstr (l : List UInt8) : ByteArray := ⟨l.toArray⟩
/-- ask, where it fails. -/
theorem ask_no (k : UInt8) (N : Int) (s : ByteArray) (g : Nat) {lo : Nat} (r : List UInt8) (w : World) (hr : Rdr w g lo r false) (ht : Th.ok ⟨k, N, s⟩) (h : Th.sz ⟨k, N, s⟩ r = 0) :
    Calls Try.prog 25 #[.agg #[.int .u8 (k.toNat : Int), .int .i64 N, .string s], .pointer (some ⟨g, 0, none⟩)] w fun e w' => e = .returned (.agg #[.int .i64 0, .string ⟨#[]⟩]) ∧ Rdr w' g lo [] true ∧ w.grownBy w' (some g) := by
  have := ask_any ⟨k, N, s⟩ g r false w hr ht
  unfold Asked at this
  rw [h] at this
  exact this
/-- ask, where the thing stands. -/
theorem ask_yes (k : UInt8) (N : Int) (s : ByteArray) (g : Nat) {lo q : Nat} {x : Int} {l : List UInt8} (r : List UInt8) (w : World) (hr : Rdr w g lo r false) (ht : Th.ok ⟨k, N, s⟩) (h : Th.sz ⟨k, N, s⟩ r = q) (hq : q ≠ 0)
    (hx : Th.tn ⟨k, N, s⟩ r = x) (hl : Th.ts ⟨k, N, s⟩ r = l) :
    Calls Try.prog 25 #[.agg #[.int .u8 (k.toNat : Int), .int .i64 N, .string s], .pointer (some ⟨g, 0, none⟩)] w fun e w' => e = .returned (.agg #[.int .i64 x, .string (tstr l)]) ∧ Rdr w' g lo (r.drop q) false ∧ w.grownBy w' (some g) := by
  have := ask_any ⟨k, N, s⟩ g r false w hr ht
  unfold Asked at this
  rw [h, show stp r false q = (r.drop q, false) by simp [stp, hq], hx, hl] at this
  exact this
theorem Rdr.alloc {w : World} {g lo : Nat} {bs : List UInt8} {f : Bool} (h : Rdr w g lo bs f) (o : Obj) : Rdr (w.alloc o) g lo bs f := h.keep ((Below.refl _ _).alloc (Nat.le_refl _) _)
theorem Rdr.drew {w : World} {g lo : Nat} {bs : List UInt8} {f : Bool} (h : Rdr w g lo bs f) : Rdr w.drew g lo bs f := h.keep (Below.refl _ _).drew
theorem undrew {w w' : World} {row : Option Nat} (h : w.drew.grownBy w' row) : w.grownBy w' row := ⟨h.os, h.tape, h.output, h.size, h.block⟩
theorem Rdr.len {w : World} {g lo : Nat} {bs : List UInt8} {f : Bool} (h : Rdr w g lo bs f) : bs.length ≤ 1000000000000 := by
  obtain ⟨A, n, c, _, h2, _, h4⟩ := h
  rw [h2.len]; exact h4
theorem undrewB {w w' : World} (h : Below w.drew.heap.size w.drew w') : Below w.heap.size w w' := ⟨h.os, h.tape, h.output, h.size, h.block⟩
theorem okF (w : World) (g : Nat) {lo : Nat} (bs : List UInt8) (hr : Rdr w g lo bs true) : Calls Try.prog 12 #[.pointer (some ⟨g, 0, none⟩)] w fun e w' => e = .returned (.bool false) ∧ w = w' := ok_any w g bs true hr
theorem okT (w : World) (g : Nat) {lo : Nat} (bs : List UInt8) (hr : Rdr w g lo bs false) : Calls Try.prog 12 #[.pointer (some ⟨g, 0, none⟩)] w fun e w' => e = .returned (.bool true) ∧ w = w' := ok_any w g bs false hr
theorem left_is {k : Nat} (w : World) (g : Nat) {lo : Nat} (bs : List UInt8) (f : Bool) (hr : Rdr w g lo bs f) (hk : bs.length = k) : Calls Try.prog 14 #[.pointer (some ⟨g, 0, none⟩)] w fun e w' => e = .returned (.int .i64 (k : Int)) ∧ w = w' := hk ▸ left_any w g bs f hr
theorem done_is {v : Bool} (w : World) (g : Nat) {lo : Nat} (bs : List UInt8) (f : Bool) (hr : Rdr w g lo bs f) (hv : dn bs f = v) : Calls Try.prog 13 #[.pointer (some ⟨g, 0, none⟩)] w fun e w' => e = .returned (.bool v) ∧ w = w' := hv ▸ done_any w g bs f hr
theorem seq_alloc {a b : World} (h : Below a.heap.size a b) (o : Obj) : Below a.heap.size a (b.alloc o) := h.alloc h.size o
theorem below_app {a b c : World} {v : Value} (hb : Below a.heap.size a b) (hg : b.grownBy c v.ownBlock) (hv : ∀ k, v.ownBlock = some k → a.heap.size ≤ k) : Below a.heap.size a c := hb.grown hg hb.size hv

end Go.Proofs.Ytafdglicbddicaa
