/- bastionlaw01.CodeOnward, where the arguments are too long; the whole walk. -/
import Derived.Test.YtafdglicbddicaaOnward
namespace Go.Proofs.Ytafdglicbddicaa
open Go.RowKit

set_option maxRecDepth 100000 in
set_option maxHeartbeats 1000000 in
theorem onward_long (A : Option Addr) (n c : Nat) (B : Option Addr) (m d : Nat) (ts : List Th) (w : World)
    (ht : SlT w Any B m ts) (hto : ∀ a ∈ ts, a.ok) (hm : m ≤ maxLen) (hl : 20000 < n ∨ (n ≤ 20000 ∧ longB ts = true)) :
    Calls Try.prog 8 #[.slice A n c, .slice B m d] w fun e w' => e = .returned (.bool true) ∧ Below w.heap.size w w' := by
  have HM := Lib.hid hm
  have HTO := Lib.hid hto
  clear hm hto
  rcases hl with h | ⟨h1, h3⟩
  · have h' : (20000 : Int) < (n : Int) := by omega
    clear h
    go_enter Try.func8, Try.ntmps8
    go_wp2_with (go_at_call 11; ((with_reducible refine (works_any _).mono ?_); first | (rintro e w2 ⟨rfl, hb2⟩; have hb := seq hb hb2) | (rintro e w1 ⟨rfl, hb⟩)))
    go_ret
    exact ⟨rfl, hb⟩
  · have h1' : (n : Int) ≤ 20000 := by omega
    have H3 := Lib.hid h3
    clear h1 h3
    go_enter Try.func8, Try.ntmps8
    go_wp2_with (first
      | (go_at_call 11; ((with_reducible refine (works_any _).mono ?_); first | (rintro e w2 ⟨rfl, hb2⟩; have hb := seq hb hb2) | (rintro e w1 ⟨rfl, hb⟩)))
      | (go_at_call 22; ((with_reducible refine (long_is Any B m d ts _ (ht.below_all hb) HTO.out HM.out H3.out).mono ?_); rintro e w3 ⟨rfl, rfl⟩)))
    go_ret
    exact ⟨rfl, hb⟩

theorem onward_walk {w : World} (A : Option Addr) (n c : Nat) (bs : List UInt8) (hs : SlB w Any A n bs) (hnc : n ≤ c) (_ : c ≤ maxLen)
    (B : Option Addr) (m d : Nat) (ts : List Th) (ht : SlT w Any B m ts) (hto : ∀ a ∈ ts, a.ok) (hmd : m ≤ d) (hd : d ≤ maxLen) :
    Calls Try.prog 8 #[.slice A n c, .slice B m d] w fun e w' => e = .returned (.bool true) ∧ Below w.heap.size w w' := by
  by_cases h : 20000 < n ∨ (n ≤ 20000 ∧ longB ts = true)
  · exact onward_long A n c B m d ts w ht hto (Nat.le_trans hmd hd) h
  · have h3 : longB ts = false := by
      cases hb : longB ts with
      | true => exact absurd (.inr ⟨by omega, hb⟩) h
      | false => rfl
    exact onward_core A n c bs B m d ts w hs hnc ht hto (Nat.le_trans hmd hd) (by omega) h3

end Go.Proofs.Ytafdglicbddicaa
