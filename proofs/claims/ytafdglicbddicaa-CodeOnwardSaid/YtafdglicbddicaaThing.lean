/- What bastionlaw01's small functions do: lay, may, begins, one. -/
import Derived.Test.YtafdglicbddicaaWorks
import Derived.Test.YtafdglicbddicaaOpen
namespace Go.Proofs.Ytafdglicbddicaa
open Go.RowKit

/-- The bytes of a thing. -/
def Th.bytes (t : Th) : List UInt8 :=
  if t.k.toNat = 0 then grp (zig t.n) else if t.k.toNat = 1 then cntB t.n else if t.k.toNat = 2 then grp t.s.size ++ t.s.data.toList else flagB (t.n.tmod 2 != 0)

theorem Th.b0 {t : Th} (h : t.k.toNat = 0) : t.bytes = grp (zig t.n) := by unfold Th.bytes; rw [if_pos h]
theorem Th.b1 {t : Th} (h : t.k.toNat = 1) : t.bytes = cntB t.n := by unfold Th.bytes; rw [if_neg (by omega), if_pos h]
theorem Th.b2 {t : Th} (h : t.k.toNat = 2) : t.bytes = grp t.s.size ++ t.s.data.toList := by unfold Th.bytes; rw [if_neg (by omega), if_neg (by omega), if_pos h]
theorem Th.b3 {t : Th} (h : 2 < t.k.toNat) : t.bytes = flagB (t.n.tmod 2 != 0) := by unfold Th.bytes; rw [if_neg (by omega), if_neg (by omega), if_neg (by omega)]

theorem RetB.seq {w W : World} {bs bs' : List UInt8} {e : Ending} {w' : World} (h : RetB W bs e w') (hb : Below w.heap.size w W) (he : bs = bs') : RetB w bs' e w' := by
  subst he
  obtain ⟨v, rfl, ho, hb'⟩ := h
  exact ⟨v, rfl, own_mono ho hb.size, Go.Proofs.Ytafdglicbddicaa.seq hb hb'⟩

set_option maxRecDepth 20000 in
set_option maxHeartbeats 1000000 in
theorem lay_any (t : Th) (S : Nat → Prop) (A : Option Addr) (n c : Nat) (bs : List UInt8) (w : World) (hs : SlB w S A n bs) (hn : n ≤ 1000000000000) (ht : t.ok) (hl : t.s.size ≤ 2147483647) :
    Calls Try.prog 19 #[t.val, .slice A n c] w (RetB w (bs ++ t.bytes)) := by
  obtain ⟨k, N, s⟩ := t
  obtain ⟨n0, n1, _⟩ := ht
  unfold Th.val
  simp only at n0 n1 hl ⊢
  have HN := Lib.hid hn
  have h0 := Lib.hid n0
  have h1 := Lib.hid n1
  have HL := Lib.hid hl
  obtain ⟨q, hq⟩ : ∃ q, q = k.toNat := ⟨_, rfl⟩
  rw [← hq]
  have HQ := Lib.hid hq
  clear hq hn n0 n1 hl
  have hal : ∀ o, Below w.heap.size w (w.alloc o) := fun o => (Below.refl _ _).alloc (Nat.le_refl _) _
  have hal' := Lib.hid hal
  clear hal
  rcases (show q = 0 ∨ q = 1 ∨ q = 2 ∨ 2 < q by omega) with rfl | rfl | rfl | h2
  · go_enter Try.func19, Try.ntmps19
    go_wp2_with (go_at_call 32; ((with_reducible refine (num_any S A n c bs N _ (hs.alloc _) HN.out h0.out h1.out).mono ?_); rintro e w1 ⟨v1, rfl, ho1, hb1⟩))
    go_ret
    exact RetB.seq ⟨v1, rfl, ho1, hb1⟩ (hal'.out _) (by rw [Th.b0 (t := ⟨k, N, s⟩) HQ.out.symm])
  · go_enter Try.func19, Try.ntmps19
    go_wp2_with (go_at_call 33; ((with_reducible refine (count_any S A n c bs N _ (hs.alloc _) HN.out).mono ?_); rintro e w1 ⟨v1, rfl, ho1, hb1⟩))
    go_ret
    exact RetB.seq ⟨v1, rfl, ho1, hb1⟩ (hal'.out _) (by rw [Th.b1 (t := ⟨k, N, s⟩) HQ.out.symm])
  · go_enter Try.func19, Try.ntmps19
    go_wp2_with (go_at_call 34; ((with_reducible refine (str_any S A n c bs s _ (hs.alloc _) HN.out HL.out).mono ?_); rintro e w1 ⟨v1, rfl, ho1, hb1⟩))
    go_ret
    exact RetB.seq ⟨v1, rfl, ho1, hb1⟩ (hal'.out _) (by rw [Th.b2 (t := ⟨k, N, s⟩) HQ.out.symm, List.append_assoc])
  · have e0 : ((q : Int) == 0) = false := by simp; omega
    have e1 : ((q : Int) == 1) = false := by simp; omega
    have e2 : ((q : Int) == 2) = false := by simp; omega
    go_enter Try.func19, Try.ntmps19
    go_wp2_with (go_at_call 35; ((with_reducible refine (flag_any S A n c bs _ _ (hs.alloc _) HN.out).mono ?_); rintro e w1 ⟨v1, rfl, ho1, hb1⟩))
    go_ret
    exact RetB.seq ⟨v1, rfl, ho1, hb1⟩ (hal'.out _) (by rw [Th.b3 (t := ⟨k, N, s⟩) (by have := HQ.out; simp only; omega)])

end Go.Proofs.Ytafdglicbddicaa
