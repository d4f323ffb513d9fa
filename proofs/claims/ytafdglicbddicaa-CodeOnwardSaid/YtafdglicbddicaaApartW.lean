/- The walk of bastionlaw01.CodeApart. -/
import Derived.Test.YtafdglicbddicaaApart
import Derived.Deep.DeepCutAuto
import Derived.Deep.CutBlock
namespace Go.Proofs.Ytafdglicbddicaa
open Go.RowKit

/-- It answers a list that reads as X, n bytes. -/
def RetX (w : World) (X : List UInt8) (n : Nat) (e : Ending) (w' : World) : Prop := ∃ A c, e = .returned (.slice A n c) ∧ SlB w' Any A n X ∧ Below w.heap.size w w'
theorem lay_is {X : List UInt8} {n : Nat} (k : UInt8) (N : Int) (s : ByteArray) (w : World) (ht : Th.ok ⟨k, N, s⟩) (hl : s.size ≤ 2147483647) (hX : Th.bytes ⟨k, N, s⟩ = X) (hn : X.length = n) :
    Calls Try.prog 19 #[.agg #[.int .u8 (k.toNat : Int), .int .i64 N, .string s], .slice none 0 0] w (RetX w X n) :=
  (lay_any ⟨k, N, s⟩ Any none 0 0 [] w Sl.nil_ (by omega) ht hl).mono fun e w' ⟨v, he, ho, hb⟩ => by
    rw [hX, List.nil_append] at ho
    obtain ⟨A, c, rfl, _, hs⟩ := ho.form hn
    exact ⟨A, c, he, Sl.any hs, hb⟩

theorem step_str {P : Program} {w : World} {ops : Array Oper} {o : Oper} {a : Act} {K : Act → World → Prop} {Q : Exit → Act → World → Prop} {E : Prop} (hgd : o.guard = none) (x : Operand) (src dst : TypeId)
    (ho : o.op = .convert src dst x) (e : TypeId) (hs : P.underlying src = some (.slice e)) (he : P.underlying e = some (.int .u8)) (hd : P.underlying dst = some .string)
    (S : Nat → Prop) (A : Option Addr) (n c : Nat) (bs : List UInt8) (hx : a.eval x = .slice A n c) (h : SlB w S A n bs)
    (hK : K (a.put o.dst (.string ⟨bs.toArray⟩)) w) : if Region.wanted o (yielded ops a.tmps) = true then Oper.wp P o a w K Q else E := by
  have hw : Region.wanted o (yielded ops a.tmps) = true := by simp [Region.wanted, hgd]
  rw [if_pos hw]
  have hrun := run_str (P := P) src dst e hs he hd h c
  unfold Oper.wp
  simp only [execOp, ho, hx, Sem.run_bind, hrun, Result.andThen_ok, Sem.run_pure]
  exact hK

def agT (k : UInt8) (N : Int) (s : ByteArray) : Array Value := #[.int .u8 (k.toNat : Int), .int .i64 N, .string s]
theorem bk_cells {w : World} {g t : Nat} {k : UInt8} {N : Int} {s : ByteArray} (h : Bk w g t (agT k N s)) :
    w.cell? ⟨g, 0, none⟩ = some (.int .u8 (k.toNat : Int)) ∧ w.cell? ⟨g, 1, none⟩ = some (.int .i64 N) ∧ w.cell? ⟨g, 2, none⟩ = some (.string s) ∧ w.frozen? ⟨g, 0, none⟩ = false ∧ w.frozen? ⟨g, 1, none⟩ = false :=
  ⟨h.cell 0, h.cell 1, h.cell 2, h.frozen 0, h.frozen 1⟩
theorem bk_two {w w1 : World} {a b : Array Value} {t : Nat} (hb : Below ((w.alloc (.cells a t)).alloc (.cells b t)).heap.size ((w.alloc (.cells a t)).alloc (.cells b t)) w1) :
    Bk w1 w.heap.size t a ∧ Bk w1 (w.heap.size + 1) t b := by
  have h2 := Bk.new (w.alloc (.cells a t)) t b
  have e : (w.alloc (.cells a t)).heap.size = w.heap.size + 1 := by simp
  rw [e] at h2
  exact ⟨((Bk.new w t a).alloc _).below_all hb, h2.below_all hb⟩

theorem bk_set {w : World} {g t : Nat} {k k' : UInt8} {N : Int} {s : ByteArray} (h : Bk w g t (agT k N s)) : Bk (w.setCell ⟨g, 0, none⟩ (.int .u8 (k'.toNat : Int))) g t (agT k' N s) := by
  have := h.set_ 0 (.int .u8 (k'.toNat : Int))
  simpa [agT] using this

theorem six {w3 w' : World} {p q : Nat} {x0 x1 x2 y0 y1 y2 : Value} (hK : Below w3.heap.size w3 w') (lp : p < w3.heap.size) (lq : q < w3.heap.size)
    (a0 : w3.cell? ⟨p, 0, none⟩ = some x0) (a1 : w3.cell? ⟨p, 1, none⟩ = some x1) (a2 : w3.cell? ⟨p, 2, none⟩ = some x2) (b0 : w3.cell? ⟨q, 0, none⟩ = some y0) (b1 : w3.cell? ⟨q, 1, none⟩ = some y1) (b2 : w3.cell? ⟨q, 2, none⟩ = some y2) :
    w'.cell? ⟨p, 0, none⟩ = some x0 ∧ w'.cell? ⟨p, 1, none⟩ = some x1 ∧ w'.cell? ⟨p, 2, none⟩ = some x2 ∧ w'.cell? ⟨q, 0, none⟩ = some y0 ∧ w'.cell? ⟨q, 1, none⟩ = some y1 ∧ w'.cell? ⟨q, 2, none⟩ = some y2 :=
  ⟨(hK.cell (p := ⟨p, 0, none⟩) lp).trans a0, (hK.cell (p := ⟨p, 1, none⟩) lp).trans a1, (hK.cell (p := ⟨p, 2, none⟩) lp).trans a2, (hK.cell (p := ⟨q, 0, none⟩) lq).trans b0, (hK.cell (p := ⟨q, 1, none⟩) lq).trans b1, (hK.cell (p := ⟨q, 2, none⟩) lq).trans b2⟩

set_option maxRecDepth 100000 in
set_option maxHeartbeats 4000000 in
theorem apart_core (k k' : UInt8) (N M : Int) (s t : ByteArray) (w : World) (ha : Th.ok ⟨k, N, s⟩) (hb : Th.ok ⟨k, M, t⟩) (hl : s.size + t.size ≤ 100000) (ma : mayB ⟨k, N, s⟩ = true) (mb : mayB ⟨k, M, t⟩ = true) :
    Calls Try.prog 6 #[.agg #[.int .u8 (k.toNat : Int), .int .i64 N, .string s], .agg #[.int .u8 (k'.toNat : Int), .int .i64 M, .string t]] w fun e w' => e = .returned (.bool true) ∧ Below w.heap.size w w' := by
  obtain ⟨X, hX⟩ : ∃ X, Th.bytes ⟨k, N, s⟩ = X := ⟨_, rfl⟩
  obtain ⟨Y, hY⟩ : ∃ Y, Th.bytes ⟨k, M, t⟩ = Y := ⟨_, rfl⟩
  have h1 : (s.size : Int) + (t.size : Int) ≤ 100000 := by omega
  have HA := Lib.hid ha
  have HB := Lib.hid hb
  have HL := Lib.hid hl
  have MA := Lib.hid ma
  have MB := Lib.hid mb
  have HX := Lib.hid hX
  have HY := Lib.hid hY
  clear ha hb hl ma mb hX hY
  go_enter Try.func6, Try.ntmps6
  go_upto_block 0 with (first
    | (go_at_call 11; ((with_reducible refine (works_any _).mono ?_); rintro e w1 ⟨rfl, hb1⟩; obtain ⟨hA1, hB1⟩ := bk_two hb1; obtain ⟨a0, a1, a2, af, _⟩ := bk_cells hA1; obtain ⟨b0, b1, b2, bf, _⟩ := bk_cells hB1))
    | (go_at_call 30; ((with_reducible refine (may_is k N s _ MA.out).mono ?_); rintro e w2 ⟨rfl, hb2⟩; have hA2 := (hA1.far (p := ⟨w.heap.size + 1, 0, none⟩) (by simp) (.int .u8 (k.toNat : Int))).below_all hb2; have hB2 := (bk_set (k' := k) hB1).below_all hb2; clear a0 a1 a2 af b0 b1 b2 bf; obtain ⟨a0, a1, a2, af, _⟩ := bk_cells hA2; obtain ⟨b0, b1, b2, bf, _⟩ := bk_cells hB2))
    | (go_at_call 30; ((with_reducible refine (may_is k M t _ MB.out).mono ?_); rintro e w3 ⟨rfl, hb3⟩; have hA3 := hA2.below_all hb3; have hB3 := hB2.below_all hb3; clear a0 a1 a2 af b0 b1 b2 bf; obtain ⟨a0, a1, a2, af, _⟩ := bk_cells hA3; obtain ⟨b0, b1, b2, bf, _⟩ := bk_cells hB3)))
  have hbw : Below w.heap.size w w3 := seq (seq ((seq (seq_alloc (seq_alloc (Below.refl _ _) _) _) hb1).setCell (p := ⟨w.heap.size + 1, 0, none⟩) (by simp) _) hb2) hb3
  have l0 : w.heap.size < w3.heap.size := hA3.lt
  have l1 : w.heap.size + 1 < w3.heap.size := hB3.lt
  have HW := Lib.hid hbw
  have L0 := Lib.hid l0
  have L1 := Lib.hid l1
  have hs1 : s.size ≤ 2147483647 := by have := HL.out; omega
  have hs2 : t.size ≤ 2147483647 := by have := HL.out; omega
  have S1 := Lib.hid hs1
  have S2 := Lib.hid hs2
  clear hbw l0 l1 hb1 hb2 hb3 hA1 hA2 hB1 hB2 hA3 hB3 hs1 hs2
  go_cut [5] (fun s5 wx => s5 = .bool (sameB ⟨k, N, s⟩ ⟨k, M, t⟩) ∧ wx = w3)
  case first =>
    rcases (show k.toNat < 2 ∨ k.toNat = 2 ∨ 2 < k.toNat by omega) with hk | hk | hk
    · have e2 : ((k.toNat : Int) == 2) = false := by simp; omega
      have e3 : decide (2 < (k.toNat : Int)) = false := by simp; omega
      have hS : sameB ⟨k, N, s⟩ ⟨k, M, t⟩ = (N == M) := by unfold sameB; rw [if_neg (by simp only; omega), if_neg (by simp only; omega)]
      have HS := Lib.hid hS
      clear hS hk
      go_wp2_with fail
      all_goals (go_meet; exact ⟨by rw [HS.out], rfl⟩)
    · have e2 : ((k.toNat : Int) == 2) = true := by simp; omega
      have hS : sameB ⟨k, N, s⟩ ⟨k, M, t⟩ = (s.toList == t.toList) := by unfold sameB; rw [if_pos (by simp only; omega)]
      have HS := Lib.hid hS
      clear hS hk
      go_wp2_with fail
      all_goals (go_meet; exact ⟨by rw [HS.out], rfl⟩)
    · have e2 : ((k.toNat : Int) == 2) = false := by simp; omega
      have e3 : decide (2 < (k.toNat : Int)) = true := by simp; omega
      have hS : sameB ⟨k, N, s⟩ ⟨k, M, t⟩ = ((N.tmod 2 != 0) == (M.tmod 2 != 0)) := by unfold sameB; rw [if_neg (by simp only; omega), if_pos (by simp only; omega)]
      have HS := Lib.hid hS
      clear hS hk
      go_wp2_with fail
      all_goals (go_meet; exact ⟨by rw [HS.out], rfl⟩)
  case rest =>
    obtain ⟨rfl, rfl⟩ := hcut
    go_upto_region 11 with fail
    go_cut [6, 7] (fun s6 s7 wx => s6 = .string ⟨X.toArray⟩ ∧ s7 = .string ⟨Y.toArray⟩ ∧ Below w.heap.size w wx)
    case first =>
      go_region_with (first
          | (go_at_call 19; (with_reducible refine (lay_is k N s _ HA.out S1.out HX.out rfl).mono ?_); rintro e w4 ⟨A4, c4, rfl, hs4, hb4⟩; (first | have hK := seq hK hb4 | have hK := undrewB hb4); obtain ⟨z0, z1, z2, z3, z4, z5⟩ := six hK L0.out L1.out a0 a1 a2 b0 b1 b2; have q4 := run_str (P := Try.prog) 32 9 5 Try.underlying32 Try.underlying5 Try.underlying9 hs4 c4; try have q5' := run_str (P := Try.prog) 32 9 5 Try.underlying32 Try.underlying5 Try.underlying9 (hs5.below_all hb4) c5)
          | (go_at_call 19; (with_reducible refine (lay_is k M t _ HB.out S2.out HY.out rfl).mono ?_); rintro e w5 ⟨A5, c5, rfl, hs5, hb5⟩; (first | have hK := seq hK hb5 | have hK := undrewB hb5); obtain ⟨z0, z1, z2, z3, z4, z5⟩ := six hK L0.out L1.out a0 a1 a2 b0 b1 b2; have q5 := run_str (P := Try.prog) 32 9 5 Try.underlying32 Try.underlying5 Try.underlying9 hs5 c5; try have q4' := run_str (P := Try.prog) 32 9 5 Try.underlying32 Try.underlying5 Try.underlying9 (hs4.below_all hb5) c4))
      all_goals (go_wp2_with fail; go_meet; exact ⟨rfl, rfl, seq HW.out hK⟩)
    case rest =>
      obtain ⟨rfl, rfl, hbw⟩ := hcut
      have hS1 := Lib.hid (bytes_free k N M s t HA.out HB.out MA.out MB.out)
      have hS2 : Hid ((Th.bytes ⟨k, M, t⟩ <+: Th.bytes ⟨k, N, s⟩) ↔ sameB ⟨k, N, s⟩ ⟨k, M, t⟩ = true) := Lib.hid (by rw [← sameB_comm]; exact bytes_free k M N t s HB.out HA.out MB.out MA.out)
      have p1 : begB ⟨X.toArray⟩ ⟨Y.toArray⟩ = sameB ⟨k, N, s⟩ ⟨k, M, t⟩ := by rw [Bool.eq_iff_iff, begB_iff, ← HX.out, ← HY.out]; exact hS2.out
      have p2 : begB ⟨Y.toArray⟩ ⟨X.toArray⟩ = sameB ⟨k, N, s⟩ ⟨k, M, t⟩ := by rw [Bool.eq_iff_iff, begB_iff, ← HX.out, ← HY.out]; exact hS1.out
      have P1 := Lib.hid p1
      have P2 := Lib.hid p2
      have hxl : X.length ≤ 1000000 := by rw [← HX.out]; exact bytes_len _ HA.out (by have := HL.out; simp only; omega)
      have hyl : Y.length ≤ 1000000 := by rw [← HY.out]; exact bytes_len _ HB.out (by have := HL.out; simp only; omega)
      have hx0 : 0 < X.length := by rw [← HX.out]; exact List.length_pos_iff.2 (bytes_pos _ MA.out)
      have BX : Hid ((ByteArray.mk X.toArray).size ≤ 9223372036854775807) := Lib.hid (show X.toArray.size ≤ _ by simp; omega)
      have BY : Hid ((ByteArray.mk Y.toArray).size ≤ 9223372036854775807) := Lib.hid (show Y.toArray.size ≤ _ by simp; omega)
      clear p1 p2
      obtain ⟨v, hv⟩ : ∃ v, v = sameB ⟨k, N, s⟩ ⟨k, M, t⟩ := ⟨_, rfl⟩
      rw [← hv] at P1 P2 ⊢
      clear hv
      go_wp2_with (first
        | (go_at_call 31; ((with_reducible refine (begins_is ⟨X.toArray⟩ ⟨Y.toArray⟩ _ BX.out BY.out P1.out).mono ?_); rintro e w6 ⟨rfl, rfl⟩))
        | (go_at_call 31; ((with_reducible refine (begins_is ⟨Y.toArray⟩ ⟨X.toArray⟩ _ BY.out BX.out P2.out).mono ?_); rintro e w6 ⟨rfl, rfl⟩)))
      go_ret
      exact ⟨ret_bool (by simp), hbw⟩

end Go.Proofs.Ytafdglicbddicaa
