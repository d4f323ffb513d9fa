/- What bastionlaw01.long answers: whether things are more than a statement goes over. -/
import Derived.Test.YtafdglicbddicaaThing
namespace Go.Proofs.Ytafdglicbddicaa
open Go.RowKit

def lsum : List Th → Nat
  | [] => 0
  | t :: r => 20 + t.s.size + lsum r
theorem lsum_append (a b : List Th) : lsum (a ++ b) = lsum a + lsum b := by
  induction a with
  | nil => simp [lsum]
  | cons t r ih => simp [lsum, ih]; omega
theorem lsum_take (ts : List Th) (i : Nat) : lsum (ts.take i) ≤ lsum ts := by
  conv => rhs; rw [← List.take_append_drop i ts]
  rw [lsum_append]; omega
theorem lsum_snoc {ts : List Th} {i : Nat} {t : Th} (h : ts[i]? = some t) : lsum (ts.take (i + 1)) = lsum (ts.take i) + (20 + t.s.size) := by
  rw [List.take_add_one, h, Option.toList_some, lsum_append]
  simp [lsum]
theorem lsum_mem {ts : List Th} {t : Th} (h : t ∈ ts) : 20 + t.s.size ≤ lsum ts := by
  induction ts with
  | nil => cases h
  | cons a r ih =>
    simp only [lsum]
    rcases List.mem_cons.1 h with rfl | h
    · omega
    · have := ih h; omega
theorem lsum_len (ts : List Th) : 20 * ts.length ≤ lsum ts := by
  induction ts with
  | nil => simp [lsum]
  | cons a r ih => simp only [lsum, List.length_cons]; omega
theorem SlT.atF {w : World} {S : Nat → Prop} {A : Option Addr} {n i : Nat} {ts : List Th} (h : SlT w S A n ts) (hi : i < n) (a : Th) (ha : ts[i]? = some a) :
    ∃ ad, A = some ad ∧ S ad.block ∧ w.cell? (ad.add (i * 3)) = some (.int .u8 (a.k.toNat : Int)) ∧
      w.cell? ⟨(ad.add (i * 3)).block, (ad.add (i * 3)).off + 1, none⟩ = some (.int .i64 a.n) ∧ w.cell? ⟨(ad.add (i * 3)).block, (ad.add (i * 3)).off + 2, none⟩ = some (.string a.s) := by
  obtain ⟨ad, e, hb, c0, c1, c2⟩ := h.at_ hi a ha
  obtain ⟨ad', e', hS, _⟩ := Sl.cells h (by omega)
  rw [e] at e'
  injection e' with e'
  subst e'
  rw [← add_add] at c1 c2
  exact ⟨ad, e, hS, c0, c1, c2⟩
def longB (ts : List Th) : Bool := decide (20000 ≤ lsum ts)

set_option maxRecDepth 100000 in
set_option maxHeartbeats 1000000 in
theorem long_any (S : Nat → Prop) (A : Option Addr) (n c : Nat) (ts : List Th) (w : World) (hs : SlT w S A n ts) (ho : ∀ a ∈ ts, a.ok) (hn : n ≤ maxLen) :
    Calls Try.prog 22 #[.slice A n c] w fun e w' => e = .returned (.bool (longB ts)) ∧ w = w' := by
  have hn' : (n : Int) ≤ 9223372036854775807 := by unfold maxLen at hn; omega
  clear hn
  have HL := Lib.hid hs.len
  go_enter Try.func22, Try.ntmps22
  go_wp2
  go_loop [3, 4] (fun x i => ∃ k : Nat, k ≤ n ∧ i = .int .i64 (k : Int) ∧ x = .int .i64 (lsum (ts.take k) : Int)) (fun _ i => n - (intOf i).toNat)
  case atStart => exact ⟨0, by omega, rfl, rfl⟩
  case round =>
    obtain ⟨k, hk, rfl, rfl⟩ := hrel
    obtain ⟨m, hm⟩ : ∃ m, m = lsum (ts.take k) := ⟨_, rfl⟩
    rw [← hm]
    have HM := Lib.hid hm
    clear hm
    rcases Nat.lt_or_ge k n with hlt | hge
    · rcases Int.lt_or_le (m : Int) 20000 with h2 | h2
      · have hkl : k < ts.length := by rw [HL.out]; exact hlt
        have ht : ts[k]? = some ts[k] := List.getElem?_eq_getElem hkl
        obtain ⟨ad, rfl, _, c0, c1, c2⟩ := hs.atF hlt _ ht
        have hok : (ts[k].s.size : Int) ≤ 140737488351232 := by have := (ho _ (List.getElem_mem hkl)).2.2; omega
        have hsn := Lib.hid (lsum_snoc ht)
        obtain ⟨s, hs'⟩ : ∃ s, s = ts[k].s := ⟨_, rfl⟩
        rw [← hs'] at c2 hok hsn
        clear hs' c0 c1 ht hkl
        go_wp2
        go_round
        case rel => exact ⟨k + 1, by omega, by go_num, by rw [hsn.out, ← HM.out]; go_num⟩
        case measure => simp [intOf]; omega
      · go_wp2
        go_ret
        exact ⟨ret_bool (by unfold longB; have := lsum_take ts k; have := HM.out; simp; omega), rfl⟩
    · go_wp2
      go_ret
      exact ⟨ret_bool (by
        have e : ts.take k = ts := List.take_of_length_le (by rw [HL.out]; exact hge)
        have := HM.out
        rw [e] at this
        unfold longB
        rw [← this, Bool.eq_iff_iff]
        simp
        omega), rfl⟩

theorem long_is {v : Bool} (S : Nat → Prop) (A : Option Addr) (n c : Nat) (ts : List Th) (w : World) (hs : SlT w S A n ts) (ho : ∀ a ∈ ts, a.ok) (hn : n ≤ maxLen) (hv : longB ts = v) :
    Calls Try.prog 22 #[.slice A n c] w fun e w' => e = .returned (.bool v) ∧ w = w' := hv ▸ long_any S A n c ts w hs ho hn
theorem SlT.below_all {w w' : World} {S : Nat → Prop} {A : Option Addr} {n : Nat} {ts : List Th} (h : SlT w S A n ts) (hb : Below w.heap.size w w') : SlT w' S A n ts := Sl.below_all h hb
theorem SlT.below {B : Nat} {w w' : World} {A : Option Addr} {n : Nat} {ts : List Th} (h : SlT w (· < B) A n ts) (hb : Below B w w') : SlT w' (· < B) A n ts := Sl.below h hb fun _ _ hk => hk
theorem SlT.here {w : World} {S : Nat → Prop} {A : Option Addr} {n : Nat} {ts : List Th} (h : SlT w S A n ts) : SlT w (· < w.heap.size) A n ts := Sl.here h

/-- A list literal that is empty. -/
theorem own_empty (w : World) (base t : Nat) (hb : base ≤ w.heap.size) : (w.alloc (.cells #[] t)).ownsRow base t 1 (.slice (some ⟨w.heap.size, 0, none⟩) 0 0) 0 [] :=
  World.ownsRow_lit w #[] 0 hb (by decide) rfl

end Go.Proofs.Ytafdglicbddicaa
