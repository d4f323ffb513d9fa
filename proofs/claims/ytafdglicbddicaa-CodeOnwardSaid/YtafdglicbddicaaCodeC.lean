/- What the methods of a code.Reader do. -/
import Derived.Test.YtafdglicbddicaaCodeB
namespace Go.Proofs.Ytafdglicbddicaa
open Go.RowKit

/-- Block g is a reader before the bytes bs; f: it has failed. -/
def Rdr (w : World) (g lo : Nat) (bs : List UInt8) (f : Bool) : Prop :=
  ∃ A n c, Bk w g 65 #[.slice A n c, .bool f] ∧ SlB w (fun k => lo ≤ k ∧ k < g) A n bs ∧ n ≤ c ∧ n ≤ 1000000000000
def ptr (g : Nat) : Value := .pointer (some ⟨g, 0, none⟩)

theorem Rdr.keep {w w' : World} {g lo : Nat} {bs : List UInt8} {f : Bool} (h : Rdr w g lo bs f) (hb : Below w.heap.size w w') : Rdr w' g lo bs f := by
  obtain ⟨A, n, c, h1, h2, h3, h4⟩ := h
  exact ⟨A, n, c, h1.below_all hb, h2.below_all hb, h3, h4⟩
theorem Rdr.far {w : World} {g lo : Nat} {bs : List UInt8} {f : Bool} (h : Rdr w g lo bs f) {p : Addr} (hp : g < p.block) (u : Value) : Rdr (w.setCell p u) g lo bs f := by
  obtain ⟨A, n, c, h1, h2, h3, h4⟩ := h
  exact ⟨A, n, c, h1.far (by omega) u, Sl.setCell h2 (by omega) u, h3, h4⟩
/-- Writes to another block above g leave a reader as it is. -/
theorem Rdr.other {w w' : World} {g b lo : Nat} {bs : List UInt8} {f : Bool} (h : Rdr w g lo bs f) (hg : w.grownBy w' (some b)) (hb : g < b ∨ (b < lo ∧ b < g)) : Rdr w' g lo bs f := by
  obtain ⟨A, n, c, h1, h2, h3, h4⟩ := h
  exact ⟨A, n, c, h1.grown hg (by intro e; injection e; omega), Sl.grown h2 hg (by intro k hk; injection hk; omega), h3, h4⟩
theorem Rdr.lt {w : World} {g lo : Nat} {bs : List UInt8} {f : Bool} (h : Rdr w g lo bs f) : g < w.heap.size := by
  obtain ⟨A, n, c, h1, _⟩ := h
  exact h1.lt

def stp (bs : List UInt8) (f : Bool) (k : Nat) : List UInt8 × Bool := if f then (bs, true) else if k = 0 then ([], true) else (bs.drop k, false)
/-- What is told: nothing, if it failed. -/
def got {α : Type} (f : Bool) (z x : α) : α := if f then z else x
def Took (w : World) (g lo : Nat) (v : Value) (st : List UInt8 × Bool) (e : Ending) (w' : World) : Prop := e = .returned v ∧ Rdr w' g lo st.1 st.2 ∧ w.grownBy w' (some g)

set_option maxRecDepth 20000 in
set_option maxHeartbeats 400000 in
theorem ok_any (w : World) (g : Nat) {lo : Nat} (bs : List UInt8) (f : Bool) (hr : Rdr w g lo bs f) : Calls Try.prog 12 #[.pointer (some ⟨g, 0, none⟩)] w fun e w' => e = .returned (.bool (!f)) ∧ w = w' := by
  obtain ⟨A, n, c, hB, hs, hcap, hn⟩ := hr
  have c0 := hB.cell 0
  have c1 := hB.cell 1
  simp only [List.getElem?_toArray, List.getElem?_cons_zero, List.getElem?_cons_succ] at c0 c1
  clear hs hB
  go_enter Try.func12, Try.ntmps12
  go_wp2
  go_ret
  exact ⟨rfl, rfl⟩

theorem fail_parts {w : World} {g lo : Nat} {v : Value} {f : Bool} (hB : Bk w g 65 #[v, .bool f]) :
    Rdr ((w.setCell ⟨g, 0, none⟩ (.slice none 0 0)).setCell ⟨g, 1, none⟩ (.bool true)) g lo [] true ∧ w.grownBy ((w.setCell ⟨g, 0, none⟩ (.slice none 0 0)).setCell ⟨g, 1, none⟩ (.bool true)) (some g) := by
  have h2 : Bk ((w.setCell ⟨g, 0, none⟩ (.slice none 0 0)).setCell ⟨g, 1, none⟩ (.bool true)) g 65 #[.slice none 0 0, .bool true] := by
    have := (hB.set_ 0 (.slice none 0 0)).set_ 1 (.bool true)
    simpa using this
  have h3 : SlB ((w.setCell ⟨g, 0, none⟩ (.slice none 0 0)).setCell ⟨g, 1, none⟩ (.bool true)) (fun k => lo ≤ k ∧ k < g) none 0 [] := Sl.nil_
  have h4 : w.grownBy (w.setCell ⟨g, 0, none⟩ (.slice none 0 0)) (some g) := by_set (p := ⟨g, 0, none⟩) (by_refl w _) (.inl rfl) _
  have h5 : w.grownBy ((w.setCell ⟨g, 0, none⟩ (.slice none 0 0)).setCell ⟨g, 1, none⟩ (.bool true)) (some g) := by_set (p := ⟨g, 1, none⟩) h4 (.inl rfl) _
  exact ⟨⟨none, 0, 0, h2, h3, Nat.le_refl _, Nat.zero_le _⟩, h5⟩
theorem pass_parts {w : World} {g lo : Nat} {v : Value} {f : Bool} {A : Option Addr} {n c : Nat} {bs : List UInt8} (hB : Bk w g 65 #[v, .bool f]) (hs : SlB w (fun k => lo ≤ k ∧ k < g) A n bs) (h1 : n ≤ c) (h2 : n ≤ 1000000000000) :
    Rdr (w.setCell ⟨g, 0, none⟩ (.slice A n c)) g lo bs f ∧ w.grownBy (w.setCell ⟨g, 0, none⟩ (.slice A n c)) (some g) := by
  have hb : Bk (w.setCell ⟨g, 0, none⟩ (.slice A n c)) g 65 #[.slice A n c, .bool f] := by
    have := hB.set_ 0 (.slice A n c)
    simpa using this
  exact ⟨⟨A, n, c, hb, Sl.setCell hs (by simp) _, h1, h2⟩, by_set (by_refl _ _) (.inl rfl) _⟩

set_option maxRecDepth 20000 in
set_option maxHeartbeats 400000 in
theorem fail_any (w : World) (g : Nat) {lo : Nat} (bs : List UInt8) (f : Bool) (hr : Rdr w g lo bs f) : Calls Try.prog 62 #[.pointer (some ⟨g, 0, none⟩)] w fun e w' => e = .returned (.tuple #[]) ∧ Rdr w' g lo [] true ∧ w.grownBy w' (some g) := by
  obtain ⟨A, n, c, hB, hs, hcap, hn⟩ := hr
  have c0 := hB.cell 0
  have c1 := hB.cell 1
  have f0 := hB.frozen 0
  have f1 := hB.frozen 1
  simp only [List.getElem?_toArray, List.getElem?_cons_zero, List.getElem?_cons_succ] at c0 c1
  clear hs
  go_enter Try.func62, Try.ntmps62
  go_wp2
  go_end0
  exact ⟨rfl, fail_parts hB⟩

set_option maxRecDepth 20000 in
set_option maxHeartbeats 400000 in
theorem pass_any (w : World) (g : Nat) {lo : Nat} (bs : List UInt8) (f : Bool) (k : Nat) (hr : Rdr w g lo bs f) (hk : k ≤ bs.length) : Calls Try.prog 63 #[.pointer (some ⟨g, 0, none⟩), .int .i64 (k : Int)] w fun e w' => e = .returned (.tuple #[]) ∧ Rdr w' g lo (bs.drop k) f ∧ w.grownBy w' (some g) := by
  obtain ⟨A, n, c, hB, hs, hcap, hn⟩ := hr
  have hlen := hs.len
  rw [hlen] at hk
  have c0 := hB.cell 0
  have c1 := hB.cell 1
  have f0 := hB.frozen 0
  have f1 := hB.frozen 1
  simp only [List.getElem?_toArray, List.getElem?_cons_zero, List.getElem?_cons_succ] at c0 c1
  have HL := Lib.hid hlen
  clear hlen
  have hq := Lib.hid (hs.rest hk hcap)
  rcases Nat.lt_or_ge k c with hck | hck
  · rw [if_neg (by omega)] at hq
    go_enter Try.func63, Try.ntmps63
    go_wp2
    go_end0
    exact ⟨rfl, pass_parts hB hq.out (by omega) (by omega)⟩
  · have e : c = k := by omega
    have e2 : n = c := by omega
    subst e
    subst e2
    rw [if_pos rfl, Nat.sub_self] at hq
    go_enter Try.func63, Try.ntmps63
    go_wp2
    go_end0
    exact ⟨rfl, pass_parts hB hq.out (by omega) (by omega)⟩

set_option maxRecDepth 20000 in
set_option maxHeartbeats 400000 in
theorem left_any (w : World) (g : Nat) {lo : Nat} (bs : List UInt8) (f : Bool) (hr : Rdr w g lo bs f) : Calls Try.prog 14 #[.pointer (some ⟨g, 0, none⟩)] w fun e w' => e = .returned (.int .i64 (bs.length : Int)) ∧ w = w' := by
  obtain ⟨A, n, c, hB, hs, hcap, hn⟩ := hr
  have c0 := hB.cell 0
  simp only [List.getElem?_toArray, List.getElem?_cons_zero] at c0
  have HL := Lib.hid hs.len
  clear hs hB
  go_enter Try.func14, Try.ntmps14
  go_wp2
  go_ret
  exact ⟨ret_int (by rw [HL.out]), rfl⟩

def dn (bs : List UInt8) (f : Bool) : Bool := !f && bs.length == 0

set_option maxRecDepth 20000 in
set_option maxHeartbeats 400000 in
theorem done_any (w : World) (g : Nat) {lo : Nat} (bs : List UInt8) (f : Bool) (hr : Rdr w g lo bs f) : Calls Try.prog 13 #[.pointer (some ⟨g, 0, none⟩)] w fun e w' => e = .returned (.bool (dn bs f)) ∧ w = w' := by
  have hok := Lib.hid (ok_any w g bs f hr)
  obtain ⟨A, n, c, hB, hs, hcap, hn⟩ := hr
  have c0 := hB.cell 0
  simp only [List.getElem?_toArray, List.getElem?_cons_zero] at c0
  have HL := Lib.hid hs.len
  clear hs hB
  cases f
  all_goals
    go_enter Try.func13, Try.ntmps13
    go_wp2_with (first
     | (go_at_call 12; go_loud (refine hok.out.mono ?_); rintro e w1 ⟨rfl, rfl⟩)
     | go_in)
    go_ret
    refine ⟨ret_bool ?_, rfl⟩
    unfold dn
    first | rfl | (rw [HL.out]; rw [Bool.eq_iff_iff]; simp)

set_option maxRecDepth 20000 in
set_option maxHeartbeats 400000 in
theorem takeNum_any (w : World) (g : Nat) {lo : Nat} (bs : List UInt8) (f : Bool) (hr : Rdr w g lo bs f) :
    Calls Try.prog 39 #[.pointer (some ⟨g, 0, none⟩), .func (.func 40) #[] #[]] w (Took w g lo (.int .i64 (got (stp bs f (gat bs).2).2 0 (unz (gat bs).1))) (stp bs f (gat bs).2)) := by
  have hok := Lib.hid (ok_any w g bs f hr)
  have hfa := Lib.hid (fail_any w g bs f hr)
  have hpa := Lib.hid (pass_any w g bs f (gat bs).2 hr (gat_len bs))
  have hr0 := Lib.hid hr
  obtain ⟨A, n, c, hB, hs, hcap, hn⟩ := hr
  have c0 := hB.cell 0
  simp only [List.getElem?_toArray, List.getElem?_cons_zero] at c0
  have hlk := Lib.hid (numAt_any _ A n c bs w hs hn)
  clear hs hB
  obtain ⟨u, k, hu⟩ : ∃ u k, gat bs = (u, k) := ⟨_, _, rfl⟩
  rw [hu] at hlk hpa ⊢
  clear hu
  cases f with
  | true =>
    go_enter Try.func39, Try.ntmps39
    go_wp2_with (go_at_call 12; go_loud (refine hok.out.mono ?_); rintro e w1 ⟨rfl, rfl⟩)
    go_ret
    exact ⟨rfl, hr0.out, by_refl _ _⟩
  | false =>
    by_cases hk : k = 0
    · subst hk
      go_enter Try.func39, Try.ntmps39
      go_wp2_with (first
        | (go_at_call 12; go_loud (refine hok.out.mono ?_); rintro e w1 ⟨rfl, rfl⟩)
        | (go_at_call 40; go_loud (refine hlk.out.mono ?_); rintro e w1 ⟨rfl, rfl⟩)
        | (go_at_call 62; go_loud (refine hfa.out.mono ?_); rintro e w1 ⟨rfl, hr1, hg1⟩))
      go_ret
      exact ⟨rfl, hr1, hg1⟩
    · have e0 : ((k : Int) == 0) = false := by simp; omega
      have hst := Lib.hid (show stp bs false k = (bs.drop k, false) by simp [stp, hk])
      clear hk
      go_enter Try.func39, Try.ntmps39
      go_wp2_with (first
        | (go_at_call 12; go_loud (refine hok.out.mono ?_); rintro e w1 ⟨rfl, rfl⟩)
        | (go_at_call 40; go_loud (refine hlk.out.mono ?_); rintro e w1 ⟨rfl, rfl⟩)
        | (go_at_call 63; go_loud (refine hpa.out.mono ?_); rintro e w1 ⟨rfl, hr1, hg1⟩))
      go_ret
      rw [hst.out]
      exact ⟨rfl, hr1, hg1⟩

end Go.Proofs.Ytafdglicbddicaa
