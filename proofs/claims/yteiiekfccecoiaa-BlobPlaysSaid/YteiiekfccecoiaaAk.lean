/- The machine over listed rows: a text as bytes; lists that are begun as empty ones. -/
import Derived.Test.YteiiekfccecoiaaAmE
namespace Go.Am
set_option linter.unusedVariables false
variable {P : Program} {o : Oper} {a : Slots} {L L₁ : RL} {x y : Operand} {t z : TypeId} {k : IntKind}

/-- A text, as bytes in a row of its own. -/
theorem e_bytes {src dst e : TypeId} {bs : List UInt8} (ho : o.op = .convert src dst x) (hx : aev a x = some (.string ⟨⟨bs⟩⟩)) (h1 : P.underlying src = some .string) (h2 : P.underlying dst = some (.slice e)) (hu : (isU8 P e && u8OneB P e) = true) (hl : bs.length ≤ 9223372036854775807) (hs : (sizeB P e).isSome = true) :
    ∀ h, Has h L → ∃ r h₁, opB P a o h = some (.val (.slice (some ⟨r, 0, none⟩) bs.length openCap) h₁) ∧ Has h₁ ((r, .cells e (byteCells bs)) :: L) := by
  intro h H
  obtain ⟨n, hn⟩ := Option.isSome_iff_exists.1 hs
  obtain ⟨h₁, e₁⟩ := h.new_some (.cells e (byteCells bs))
  refine ⟨h.next, h₁, ?_, H.new e₁⟩
  have b1 : Nat.ble bs.length 9223372036854775807 = true := Nat.ble_eq_true_of_le hl
  simp only [opB, ho, hx, convB, h1, h2, hu, b1, cellsOfB_bytes, newCells, hn, e₁, Bool.and_self, ret2]

/-- A number of eight bits, one more. -/
theorem e_inc8 {c : UInt8} (ho : o.op = .binOp .add t x y z) (hx : aev a x = some (.int .u8 (c.toNat : Nat))) (hy : aev a y = some (.int .u8 1)) : ∀ h, opB P a o h = some (.val (.int .u8 ((c + 1).toNat : Nat)) h) := by
  intro h
  have e : wrapB .u8 ((c.toNat : Int) + 1) = ((c + 1).toNat : Nat) := by rw [wrapB_eq, IntKind.wrap_u8]; simp
  simp only [opB, ho, hx, hy, eqOk, binB, if_true, e, ret]

/-- An empty list in a row of its own, to which is appended. -/
theorem e_appendE {c : Call} {e : TypeId} {sz bts n r : Nat} {x : Value} {new : List Value} (hs : SV sz L x n new) (hn : 0 < n) (hone : allOne new = true) (ho : o.op = .call c) (hT : appT P c = some (e, sz, bts)) (ha : evs a c.args.toList = some [.slice (some ⟨r, 0, none⟩) 0 0, x])
    (hsm : n * bts ≤ 1000000000000) (hsm2 : n ≤ 1000000000000) :
    ∀ h, Has h L → ∃ r' h₁, opB P a o h = some (.val (.slice (some ⟨r', 0, none⟩) n openCap) h₁) ∧ Has h₁ ((r', .cells e new) :: L) := by
  intro h H
  have hn1 := hs.lenB
  have hf : firstB sz n x h = some new := hs.first H
  have hone' : (allOne new && (notText x || Nat.beq sz 1)) = true := by rw [hone, hs.notText]; rfl
  unfold appT at hT
  split at hT
  case h_2 => cases hT
  rename_i hcal
  split at hT
  case h_2 => cases hT
  rename_i st xt hst hxt
  split at hT
  case h_2 => cases hT
  rename_i e' xd hu1 hu2
  have hxd : (∀ k, xd = .int k → False) ∧ ∃ i, P.info? e' = some i ∧ zeroFits P e' = true ∧ e' = e ∧ i.size = sz ∧ i.bytes = bts := by
    split at hT
    · cases hT
    · rename_i hno
      split at hT
      case h_2 => cases hT
      rename_i i hi hz
      simp at hT
      obtain ⟨rfl, rfl, rfl⟩ := hT
      exact ⟨fun k hk => hno k hk, i, hi, hz, rfl, rfl, rfl⟩
  obtain ⟨hno, i, hi, hz, rfl, rfl, rfl⟩ := hxd
  obtain ⟨h₁, e₁⟩ := h.new_some (.cells e' ([] ++ new))
  refine ⟨h.next, h₁, ?_, H.new (by simpa using e₁)⟩
  have hs' : sizeB P e' = some i.size := by unfold sizeB; rw [hi]
  have b2 : Nat.ble n 1000000000000 = true := Nat.ble_eq_true_of_le (by omega)
  have hgrow : growB P h e' n [] new = some (.slice (some ⟨h.next, 0, none⟩) n openCap, h₁) := by
    simp only [growB, join_of, hz, b2, Bool.and_self, newCells, hs', e₁]
  simp only [opB, ho, ha, callOpB, hcal, appendB, hst, hxt, hu1, hu2]
  cases xd <;> first | exact (hno _ rfl).elim | skip
  all_goals
    simp only [hi, hn1, hf, hone']
    have hc : Nat.beq 0 openCap = false := beq_false (by decide)
    have b0 : Nat.ble n 0 = false := by
      cases hb : Nat.ble n 0 with
      | false => rfl
      | true => have := of_ble hb; omega
    have b1 : smallB n i.bytes = true := by unfold smallB; exact Nat.ble_eq_true_of_le (by simpa using hsm)
    have bf : firstB i.size 0 (.slice (some ⟨r, 0, none⟩) 0 0) h = some [] := by simp [firstB]
    simp only [Nat.zero_add, Nat.add_zero, hc, b0, bf, b1, hgrow, ret2]

/-- A list that may be appended to, and its rows: nothing yet; an empty one in a row of its own; one that has been appended to. -/
def LV (e : TypeId) (sz : Nat) (v : Value) (n : Nat) (cs : List Value) (X : RL) : Prop :=
  (v = .slice none 0 0 ∧ n = 0 ∧ cs = [] ∧ X = []) ∨ (∃ r, v = .slice (some ⟨r, 0, none⟩) 0 0 ∧ n = 0 ∧ cs = [] ∧ X = [(r, .cells e [])]) ∨ (∃ r, v = .slice (some ⟨r, 0, none⟩) n openCap ∧ 0 < n ∧ cs.length = n * sz ∧ X = [(r, .cells e cs)])
theorem LV.nil {e : TypeId} {sz : Nat} : LV e sz (.slice none 0 0) 0 [] [] := .inl ⟨rfl, rfl, rfl, rfl⟩
theorem LV.empty {e : TypeId} {sz r : Nat} : LV e sz (.slice (some ⟨r, 0, none⟩) 0 0) 0 [] [(r, .cells e [])] := .inr (.inl ⟨r, rfl, rfl, rfl, rfl⟩)
theorem LV.row {e : TypeId} {sz r n : Nat} {cs : List Value} (hn : 0 < n) (h : cs.length = n * sz) : LV e sz (.slice (some ⟨r, 0, none⟩) n openCap) n cs [(r, .cells e cs)] := .inr (.inr ⟨r, rfl, hn, h, rfl⟩)
theorem LV.sv {e : TypeId} {sz n : Nat} {v : Value} {cs : List Value} {X F : RL} (g : LV e sz v n cs X) : SV sz (X ++ F) v n cs := by
  rcases g with ⟨rfl, rfl, rfl, rfl⟩ | ⟨r, rfl, rfl, rfl, rfl⟩ | ⟨r, rfl, _, hl, rfl⟩
  · exact .inl ⟨rfl, rfl, rfl⟩
  · exact .inr ⟨r, 0, 0, _, [], rfl, List.mem_cons_self .., rfl, by rw [Nat.zero_mul]; rfl⟩
  · exact .inr ⟨r, 0, openCap, _, cs, rfl, List.mem_cons_self .., rfl, cut_all hl⟩

theorem e_appendLV (Y : RL) {c : Call} {e : TypeId} {sz bts n m : Nat} {F X : RL} {v x : Value} {cs new : List Value} (g : LV e sz v n cs X) (hs : SV sz (Y ++ (X ++ F)) x m new) (hm : 0 < m) (hone : allOne new = true) (ho : o.op = .call c) (hT : appT P c = some (e, sz, bts)) (ha : evs a c.args.toList = some [v, x])
    (hsm : (n + m) * bts ≤ 1000000000000) (hsm2 : n + m ≤ 1000000000000) :
    ∀ h, Has h (Y ++ (X ++ F)) → ∃ r' h₁, opB P a o h = some (.val (.slice (some ⟨r', 0, none⟩) (n + m) openCap) h₁) ∧ Has h₁ ((r', .cells e (cs ++ new)) :: (Y ++ F)) := by
  intro h H
  rcases g with ⟨rfl, rfl, rfl, rfl⟩ | ⟨r, rfl, rfl, rfl, rfl⟩ | ⟨r, rfl, _, hl, rfl⟩
  · exact e_appendGV Y GV.nil hs hm hone ho hT ha hsm hsm2 h H
  · obtain ⟨r', h₁, e₁, H₁⟩ := e_appendE hs hm hone ho hT ha (by simpa using hsm) (by simpa using hsm2) h H
    refine ⟨r', h₁, by simpa using e₁, H₁.less ?_⟩
    exact ((List.Sublist.refl Y).append (List.sublist_cons_self ..)).cons_cons _
  · exact e_appendGV Y (GV.of hl) hs hm hone ho hT ha hsm hsm2 h H

/-- What is told of a list of rows that is ahead of another one. -/
theorem Sub.mid {x : Nat × ARow} {Y G : RL} : Sub (x :: (Y ++ G)) (Y ++ x :: G) := ⟨[], by simp⟩
/-- What is left of a number in eight bits. -/
def u8of (a : Int) : UInt8 := UInt8.ofNat (a % 256).toNat
theorem e_conv8 {src dst : TypeId} {a' : Int} (ho : o.op = .convert src dst x) (hx : aev a x = some (.int k a')) (hs : P.underlying src = some (.int k)) (hd : P.underlying dst = some (.int .u8)) : ∀ h, opB P a o h = some (.val (.int .u8 ((u8of a').toNat : Nat)) h) := by
  intro h
  have e : wrapB .u8 a' = ((u8of a').toNat : Nat) := by
    rw [wrapB_eq, IntKind.wrap_u8]; unfold u8of
    simp
    omega
  simp only [opB, ho, hx, convB, hs, hd, e, ret2]
theorem e_shrI {k' : IntKind} {b : Int} {n : Nat} (ho : o.op = .binOp .shr t x y z) (hx : aev a x = some (.int k b)) (hy : aev a y = some (.int k' (n : Int))) : ∀ h, opB P a o h = some (.val (.int k (b.fdiv ((2 ^ (min n k.bits) : Nat) : Int))) h) := by
  intro h
  have h0 : ileB 0 (n : Int) = true := ileB_iff.2 (by omega)
  simp only [opB, ho, hx, hy, eqOk, binB, h0, Int.toNat_natCast, ret]
theorem e_shlN {k' : IntKind} {m s : Nat} (ho : o.op = .binOp .shl t x y z) (hx : aev a x = some (.int k (m : Int))) (hy : aev a y = some (.int k' (s : Int))) (hs : s ≤ k.bits) (hi : inK k ((m * 2 ^ s : Nat) : Int) = true) : ∀ h, opB P a o h = some (.val (.int k ((m * 2 ^ s : Nat) : Int)) h) := by
  intro h
  have h0 : ileB 0 (s : Int) = true := ileB_iff.2 (by omega)
  have h1 : (m : Int) * ((2 ^ (min s k.bits) : Nat) : Int) = ((m * 2 ^ s : Nat) : Int) := by rw [Nat.min_eq_left hs]; simp
  simp only [opB, ho, hx, hy, eqOk, binB, h0, Int.toNat_natCast, h1, wrap_in hi, ret]
theorem e_orN {m n : Nat} (ho : o.op = .binOp .or t x y z) (hx : aev a x = some (.int .i64 (m : Int))) (hy : aev a y = some (.int .i64 (n : Int))) (hm : m < 9223372036854775808) (hn : n < 9223372036854775808) : ∀ h, opB P a o h = some (.val (.int .i64 ((m ||| n : Nat) : Int)) h) := by
  intro h
  have hb : ∀ m : Nat, m < 9223372036854775808 → bitsB .i64 (m : Int) = m := fun m hm => by
    unfold bitsB
    have : (ileB 0 (m : Int) && ileB (m : Int) (mostB .i64)) = true := by
      rw [Bool.and_eq_true, ileB_iff, ileB_iff]; exact ⟨by omega, by simp [mostB]; omega⟩
    rw [this]; simp
  have hor : m ||| n < 9223372036854775808 := Nat.or_lt_two_pow (n := 63) hm hn
  have hi : inK .i64 ((m ||| n : Nat) : Int) = true := in_i64 (by omega) (by omega)
  simp only [opB, ho, hx, hy, eqOk, binB, hb m hm, hb n hn, wrap_in hi, if_true, ret]
theorem or_bytes {lo hi : Nat} (h : lo < 256) : lo ||| hi * 2 ^ 8 = lo + hi * 256 := by
  rw [Nat.or_comm, Nat.mul_comm hi, ← Nat.two_pow_add_eq_or_of_lt (i := 8) h hi]
  omega
end Go.Am
