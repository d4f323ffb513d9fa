/- Layer 6: where a key stands; the document's words for what may be, and for where a key stands. -/
import Derived.Test.YtdffhllecojgcaaNb
namespace Go.Am
section
variable {P : Program} {o : Oper} {a : Slots} {x y : Operand} {t z : TypeId}
theorem e_shr {k k' : IntKind} {m s : Nat} (ho : o.op = .binOp .shr t x y z) (hx : aev a x = some (.int k (m : Int))) (hy : aev a y = some (.int k' (s : Int))) (hs : s ≤ k.bits) : ∀ h, opB P a o h = some (.val (.int k ((m / 2 ^ s : Nat) : Int)) h) := by
  intro h
  have h0 : ileB 0 (s : Int) = true := ileB_iff.2 (by omega)
  have h1 : (m : Int).fdiv ((2 ^ (min s k.bits) : Nat) : Int) = ((m / 2 ^ s : Nat) : Int) := by
    rw [Nat.min_eq_left hs, Int.fdiv_eq_ediv_of_nonneg _ (Int.natCast_nonneg _)]; rfl
  simp only [opB, ho, hx, hy, eqOk, binB, h0, Int.toNat_natCast, h1, ret]
end
end Go.Am
namespace Go.Proofs.Ytdffhllecojgcaa
open Go.Am
set_option linter.unusedVariables false
set_option maxRecDepth 20000

theorem neq_self (s : List UInt8) : (!bytesEq s s) = false := by rw [bytesEq_eq]; simp
theorem cmpNaN_ct {L : RL} (s : List UInt8) : CS Try.prog 72 [txt s] L fun u L' => u = .bool false ∧ L' = L := by
  refine CS.mk (fn := Try.f72) rfl rfl rfl rfl ?_
  repeat refine LS.seq ?_
  refine LS.region rfl ?_
  refine OS.pure rfl (fun _ => rfl) rfl ?_
  refine OS.nil ?_
  repeat refine LS.seq ?_
  refine LS.region rfl ?_
  refine OS.pure rfl (fun _ => rfl) rfl ?_
  refine OS.pure rfl (fun _ => rfl) rfl ?_
  refine OS.pure rfl (e_is (fun _ => rfl) (congrArg Value.bool (neq_self s))) rfl ?_
  refine OS.pure rfl (fun _ => rfl) rfl ?_
  refine OS.nil ?_
  refine LS.ret ⟨_, fun _ _ => rfl, ?_⟩
  exact ⟨rfl, rfl⟩
theorem slicesNaN_ct {L : RL} (s : List UInt8) : CS Try.prog 53 [txt s] L fun u L' => u = .bool false ∧ L' = L := by
  refine CS.mk (fn := Try.f53) rfl rfl rfl rfl ?_
  repeat refine LS.seq ?_
  refine LS.region rfl ?_
  refine OS.pure rfl (fun _ => rfl) rfl ?_
  refine OS.nil ?_
  repeat refine LS.seq ?_
  refine LS.region rfl ?_
  refine OS.pure rfl (fun _ => rfl) rfl ?_
  refine OS.pure rfl (fun _ => rfl) rfl ?_
  refine OS.pure rfl (e_is (fun _ => rfl) (congrArg Value.bool (neq_self s))) rfl ?_
  refine OS.pure rfl (fun _ => rfl) rfl ?_
  refine OS.nil ?_
  refine LS.ret ⟨_, fun _ _ => rfl, ?_⟩
  exact ⟨rfl, rfl⟩
theorem Less_ct {L : RL} (s t : List UInt8) : CS Try.prog 52 [txt s, txt t] L fun u L' => u = .bool (bytesLt s t) ∧ L' = L := by
  refine CS.mk (fn := Try.f52) rfl rfl rfl rfl ?_
  repeat refine LS.seq ?_
  refine LS.region rfl ?_
  refine OS.pure rfl (fun _ => rfl) rfl ?_
  refine OS.nil ?_
  repeat refine LS.seq ?_
  refine LS.region rfl ?_
  refine OS.pure rfl (fun _ => rfl) rfl ?_
  refine OS.call noGo rfl (fun _ => rfl) ((cmpNaN_ct s).mono ?_)
  rintro u L₁ ⟨rfl, e₁⟩
  subst e₁
  refine ⟨_, rfl, ?_⟩
  refine OS.pure rfl (fun _ => rfl) rfl ?_
  refine OS.skip rfl rfl ?_
  refine OS.skip rfl rfl ?_
  refine OS.skip rfl rfl ?_
  refine OS.pure rfl (fun _ => rfl) rfl ?_
  refine OS.pure rfl (fun _ => rfl) rfl ?_
  refine OS.pure rfl (fun _ => rfl) rfl ?_
  refine OS.pure rfl (fun _ => rfl) rfl ?_
  refine OS.pure rfl (fun _ => rfl) rfl ?_
  refine OS.pure rfl (fun _ => rfl) rfl ?_
  refine OS.pure rfl (fun _ => rfl) rfl ?_
  refine OS.nil ?_
  refine LS.ret ⟨_, fun _ _ => rfl, ?_⟩
  exact ⟨rfl, rfl⟩
theorem Binary_ct {L : RL} {v : Value} {l key : List UInt8} {ks : List (List UInt8)} (hv : SV 1 L v ks.length (tx ks)) (hn : ks.length ≤ 1000000000000000) (hr : rise l ks = true) :
    CS Try.prog 28 [v, txt key] L fun u L' => u = .tuple #[.int .i64 (belowN key ks : Nat), .bool (isN key ks)] ∧ L' = L := by
  refine CS.mk (fn := Try.f28) rfl rfl rfl rfl ?_
  repeat refine LS.seq ?_
  refine LS.region rfl ?_
  refine OS.pure rfl (fun _ => rfl) rfl ?_
  refine OS.pure rfl (fun _ => rfl) rfl ?_
  refine OS.nil ?_
  repeat refine LS.seq ?_
  refine LS.region rfl ?_
  refine OS.pure rfl (fun _ => rfl) rfl ?_
  refine OS.pure rfl (e_len hv rfl rfl rfl rfl rfl) rfl ?_
  refine OS.pure rfl (fun _ => rfl) rfl ?_
  refine OS.nil ?_
  repeat refine LS.seq ?_
  refine LS.region rfl ?_
  refine OS.pure rfl (fun _ => rfl) rfl ?_
  refine OS.pure rfl (fun _ => rfl) rfl ?_
  refine OS.pure rfl (fun _ => rfl) rfl ?_
  refine OS.nil ?_
  repeat refine LS.seq ?_
  refine LS.block ?_
  refine LS.loopJ [0, 1, 6, 7, 8] (fun q a L' => ∃ i j : Nat, q = j - i ∧ i ≤ j ∧ j ≤ ks.length ∧ (∀ m k, m < i → ks[m]? = some k → bytesLt k key = true) ∧ (∀ m k, j ≤ m → ks[m]? = some k → bytesLt k key = false) ∧ L' = L ∧
    a = [v, txt key, .chan none, .chan none, .chan none, .chan none, .int .i64 (ks.length : Nat), .int .i64 (i : Nat), .int .i64 (j : Nat), .chan none, .chan none, .chan none, .chan none, .chan none, .chan none, .chan none, .chan none, .chan none, .chan none, .chan none, .chan none, .chan none, .chan none, .chan none, .chan none, .chan none, .chan none, .chan none, .chan none, .chan none, .chan none, .chan none, .chan none, .chan none, .chan none, .chan none, .chan none, .chan none, .chan none, .chan none, .chan none, .chan none, .chan none, .chan none, .chan none, .chan none, .chan none, .chan none, .chan none, .chan none, .chan none, .chan none, .chan none, .chan none]) (n := ks.length) rfl ⟨0, ks.length, rfl, by omega, by omega, fun m k h => by omega, fun m k h hk => by have := (List.getElem?_eq_some_iff.1 hk).1; omega, rfl, rfl⟩ ?_
  rintro q a L' ⟨i, j, rfl, hij, hj, h1, h2, rfl, rfl⟩
  repeat refine LS.seq ?_
  refine LS.region rfl ?_
  refine OS.pure rfl (fun _ => rfl) rfl ?_
  refine OS.pure rfl (fun _ => rfl) rfl ?_
  refine OS.pure rfl (fun _ => rfl) rfl ?_
  refine OS.nil ?_
  repeat refine LS.seq ?_
  refine LS.cond rfl (fun hc => ?_) (fun hc => ?_)
  · have hc : (i : Int) < j := lt_of hc
    have hm : (i + j) / 2 < ks.length := by omega
    have hsum : ((i : Int) + (j : Int)) = ((i + j : Nat) : Int) := by omega
    refine LS.skip ?_
    repeat refine LS.seq ?_
    refine LS.block ?_
    repeat refine LS.seq ?_
    refine LS.region rfl ?_
    refine OS.pure rfl (fun _ => rfl) rfl ?_
    refine OS.pure rfl (fun _ => rfl) rfl ?_
    refine OS.pure rfl (e_add (m := i) (n := j) rfl rfl rfl (in_i64 (by omega) (by omega))) rfl ?_
    refine OS.pure rfl (e_conv (n := i + j) rfl rfl rfl rfl (in_u64 (by omega) (by omega))) rfl ?_
    refine OS.pure rfl (e_shr (k := .u64) (m := i + j) (s := 1) rfl rfl rfl (by decide)) rfl ?_
    refine OS.pure rfl (e_conv (n := (i + j) / 2 ^ 1) rfl rfl rfl rfl (in_i64 (by omega) (by omega))) rfl ?_
    rw [show (i + j) / 2 ^ 1 = (i + j) / 2 from rfl]
    refine OS.pure rfl (fun _ => rfl) rfl ?_
    refine OS.nil ?_
    repeat refine LS.seq ?_
    refine LS.region rfl ?_
    refine OS.pure rfl (fun _ => rfl) rfl ?_
    refine OS.pure rfl (fun _ => rfl) rfl ?_
    refine OS.at1 (j := (i + j) / 2) hv (tx_at hm) rfl rfl rfl rfl rfl rfl (fun r0 o0 row0 cs0 m0 c0 g0 => ?_)
    refine ⟨_, rfl, ?_⟩
    refine OS.read rfl (e_loadm m0 c0 rfl rfl (part_one rfl g0)) rfl ?_
    refine OS.pure rfl (fun _ => rfl) rfl ?_
    refine OS.call noGo rfl (fun _ => rfl) ((Less_ct ks[(i + j) / 2] key).mono ?_)
    rintro u L₁ ⟨rfl, e₁⟩
    subst e₁
    refine ⟨_, rfl, ?_⟩
    refine OS.nil ?_
    have hat := List.getElem?_eq_getElem hm
    cases hb : bytesLt ks[(i + j) / 2] key with
    | true =>
      repeat refine LS.seq ?_
      refine LS.cond rfl (fun h => ?_) (fun h => ?_)
      · repeat refine LS.seq ?_
        refine LS.region rfl ?_
        refine OS.pure rfl (fun _ => rfl) rfl ?_
        refine OS.pure rfl (e_add (m := (i + j) / 2) (n := 1) rfl rfl rfl (in_i64 (by omega) (by omega))) rfl ?_
        refine OS.pure rfl (fun _ => rfl) rfl ?_
        refine OS.nil ?_
        refine ⟨j - ((i + j) / 2 + 1), by omega, (i + j) / 2 + 1, j, rfl, by omega, hj, fun m k hmi hk => ?_, h2, rfl, rfl⟩
        rcases Nat.lt_or_ge m ((i + j) / 2) with h3 | h3
        · have h4 := rise_after hr hk hat h3
          exact lt_trans h4 hb
        · have : m = (i + j) / 2 := by omega
          subst this
          rw [hat] at hk
          cases hk
          exact hb
      · cases h
    | false =>
      repeat refine LS.seq ?_
      refine LS.cond rfl (fun h => ?_) (fun h => ?_)
      · cases h
      · repeat refine LS.seq ?_
        refine LS.region rfl ?_
        refine OS.pure rfl (fun _ => rfl) rfl ?_
        refine OS.pure rfl (fun _ => rfl) rfl ?_
        refine OS.nil ?_
        refine ⟨(i + j) / 2 - i, by omega, i, (i + j) / 2, rfl, by omega, by omega, h1, fun m k hmi hk => ?_, rfl, rfl⟩
        rcases Nat.lt_or_ge ((i + j) / 2) m with h3 | h3
        · have h4 := rise_after hr hat hk h3
          cases h5 : bytesLt k key with
          | false => rfl
          | true => rw [lt_trans h4 h5] at hb; cases hb
        · have : m = (i + j) / 2 := by omega
          subst this
          rw [hat] at hk
          cases hk
          exact hb
  · have hc : (j : Int) ≤ (i : Int) := nlt_of hc
    have hie : i = j := by omega
    subst hie
    have hbe := below_of hr hj h1 h2
    subst hbe
    refine LS.exit ?_
    by_cases hlt : belowN key ks < ks.length
    · have hb1 : (!ileB (ks.length : Int) (belowN key ks : Nat)) = true := by rw [ileB_eq]; simp; omega
      have hat := List.getElem?_eq_getElem hlt
      by_cases he : ks[belowN key ks] = key
      · have hb2 : bytesEq ks[belowN key ks] key = true := by rw [beqT]; simp [he]
        have hi : isN key ks = true := by unfold isN; rw [hat, he]; simp
        repeat refine LS.seq ?_
        refine LS.region rfl ?_
        refine OS.pure rfl (fun _ => rfl) rfl ?_
        refine OS.pure rfl (fun _ => rfl) rfl ?_
        refine OS.pure rfl (fun _ => rfl) rfl ?_
        refine OS.pure rfl (e_is (fun _ => rfl) (congrArg Value.bool hb1)) rfl ?_
        refine OS.pure rfl (fun _ => rfl) rfl ?_
        refine OS.pure rfl (fun _ => rfl) rfl ?_
        refine OS.pure rfl (fun _ => rfl) rfl ?_
        refine OS.at1 (j := belowN key ks) hv (tx_at hlt) rfl rfl rfl rfl rfl rfl (fun r0 o0 row0 cs0 m0 c0 g0 => ?_)
        refine ⟨_, rfl, ?_⟩
        refine OS.read rfl (e_loadm m0 c0 rfl rfl (part_one rfl g0)) rfl ?_
        refine OS.pure rfl (fun _ => rfl) rfl ?_
        refine OS.pure rfl (e_is (fun _ => rfl) (congrArg Value.bool hb2)) rfl ?_
        refine OS.pure rfl (fun _ => rfl) rfl ?_
        refine OS.skip rfl rfl ?_
        refine OS.skip rfl rfl ?_
        refine OS.skip rfl rfl ?_
        refine OS.skip rfl rfl ?_
        refine OS.skip rfl rfl ?_
        refine OS.skip rfl rfl ?_
        refine OS.skip rfl rfl ?_
        refine OS.skip rfl rfl ?_
        refine OS.skip rfl rfl ?_
        refine OS.pure rfl (fun _ => rfl) rfl ?_
        refine OS.pure rfl (fun _ => rfl) rfl ?_
        refine OS.pure rfl (fun _ => rfl) rfl ?_
        refine OS.pure rfl (fun _ => rfl) rfl ?_
        refine OS.nil ?_
        refine LS.ret ⟨_, fun _ _ => rfl, ?_⟩
        exact ⟨by rw [hi]; rfl, rfl⟩
      · have hb2 : bytesEq ks[belowN key ks] key = false := by rw [beqT]; simp [he]
        have hi : isN key ks = false := by unfold isN; rw [hat]; simp [he]
        repeat refine LS.seq ?_
        refine LS.region rfl ?_
        refine OS.pure rfl (fun _ => rfl) rfl ?_
        refine OS.pure rfl (fun _ => rfl) rfl ?_
        refine OS.pure rfl (fun _ => rfl) rfl ?_
        refine OS.pure rfl (e_is (fun _ => rfl) (congrArg Value.bool hb1)) rfl ?_
        refine OS.pure rfl (fun _ => rfl) rfl ?_
        refine OS.pure rfl (fun _ => rfl) rfl ?_
        refine OS.pure rfl (fun _ => rfl) rfl ?_
        refine OS.at1 (j := belowN key ks) hv (tx_at hlt) rfl rfl rfl rfl rfl rfl (fun r0 o0 row0 cs0 m0 c0 g0 => ?_)
        refine ⟨_, rfl, ?_⟩
        refine OS.read rfl (e_loadm m0 c0 rfl rfl (part_one rfl g0)) rfl ?_
        refine OS.pure rfl (fun _ => rfl) rfl ?_
        refine OS.pure rfl (e_is (fun _ => rfl) (congrArg Value.bool hb2)) rfl ?_
        refine OS.pure rfl (fun _ => rfl) rfl ?_
        refine OS.pure rfl (fun _ => rfl) rfl ?_
        refine OS.pure rfl (fun _ => rfl) rfl ?_
        refine OS.at1 (j := belowN key ks) hv (tx_at hlt) rfl rfl rfl rfl rfl rfl (fun r0 o0 row0 cs0 m0 c0 g0 => ?_)
        refine ⟨_, rfl, ?_⟩
        refine OS.read rfl (e_loadm m0 c0 rfl rfl (part_one rfl g0)) rfl ?_
        refine OS.call noGo rfl (fun _ => rfl) ((slicesNaN_ct _).mono ?_)
        rintro u L₁ ⟨rfl, e₁⟩
        subst e₁
        refine ⟨_, rfl, ?_⟩
        refine OS.pure rfl (fun _ => rfl) rfl ?_
        refine OS.skip rfl rfl ?_
        refine OS.skip rfl rfl ?_
        refine OS.pure rfl (fun _ => rfl) rfl ?_
        refine OS.pure rfl (fun _ => rfl) rfl ?_
        refine OS.pure rfl (fun _ => rfl) rfl ?_
        refine OS.pure rfl (fun _ => rfl) rfl ?_
        refine OS.pure rfl (fun _ => rfl) rfl ?_
        refine OS.nil ?_
        refine LS.ret ⟨_, fun _ _ => rfl, ?_⟩
        exact ⟨by rw [hi]; rfl, rfl⟩
    · have hb1 : (!ileB (ks.length : Int) (belowN key ks : Nat)) = false := by rw [ileB_eq]; simp; omega
      have hi : isN key ks = false := by unfold isN; rw [List.getElem?_eq_none (by omega)]; simp
      repeat refine LS.seq ?_
      refine LS.region rfl ?_
      refine OS.pure rfl (fun _ => rfl) rfl ?_
      refine OS.pure rfl (fun _ => rfl) rfl ?_
      refine OS.pure rfl (fun _ => rfl) rfl ?_
      refine OS.pure rfl (e_is (fun _ => rfl) (congrArg Value.bool hb1)) rfl ?_
      refine OS.pure rfl (fun _ => rfl) rfl ?_
      refine OS.skip rfl rfl ?_
      refine OS.skip rfl rfl ?_
      refine OS.skip rfl rfl ?_
      refine OS.skip rfl rfl ?_
      refine OS.skip rfl rfl ?_
      refine OS.skip rfl rfl ?_
      refine OS.skip rfl rfl ?_
      refine OS.skip rfl rfl ?_
      refine OS.skip rfl rfl ?_
      refine OS.skip rfl rfl ?_
      refine OS.skip rfl rfl ?_
      refine OS.skip rfl rfl ?_
      refine OS.skip rfl rfl ?_
      refine OS.skip rfl rfl ?_
      refine OS.skip rfl rfl ?_
      refine OS.skip rfl rfl ?_
      refine OS.skip rfl rfl ?_
      refine OS.pure rfl (fun _ => rfl) rfl ?_
      refine OS.pure rfl (fun _ => rfl) rfl ?_
      refine OS.pure rfl (fun _ => rfl) rfl ?_
      refine OS.nil ?_
      refine LS.ret ⟨_, fun _ _ => rfl, ?_⟩
      exact ⟨by rw [hi]; rfl, rfl⟩
def findV (n : Nd) (key : List UInt8) : Value := if mayN n = true then .tuple #[.int .i64 (belowN key n.ks : Nat), .bool (isN key n.ks)] else .tuple #[.int .i64 0, .bool false]
theorem mayN_rise {n : Nd} (h : mayN n = true) : rise [] n.ks = true := by unfold mayN at h; simp at h; exact h.1
theorem Find_ct {L : RL} {n : Nd} {v1 v2 v3 : Value} {key : List UInt8} (h : NV L n v1 v2 v3) (hs : n.ks.length ≤ 1000000000000000) : CS Try.prog 14 [ndV n.leaf v1 v2 v3, txt key] L fun u L' => u = findV n key ∧ L' = L := by
  suffices g : CS Try.prog 14 [ndV n.leaf v1 v2 v3, txt key] L fun u L' => u = findV n key ∧ ∃ x, L' = x :: L by
    exact g.less fun u L' ⟨h1, x, h2⟩ => ⟨L, by rw [h2]; exact Sub.tail, h1, rfl⟩
  refine CS.mk (fn := Try.f14) rfl rfl rfl rfl ?_
  repeat refine LS.seq ?_
  refine LS.region rfl ?_
  refine OS.fresh rfl (e_new (fun _ => rfl) rfl) (fun _ => rfl) (fun rn => ?_)
  refine OS.pure rfl (fun _ => rfl) rfl ?_
  refine OS.pure rfl (fun _ => rfl) rfl ?_
  refine OS.nil ?_
  have h := h.cons (x := (rn, ndRow n.leaf v1 v2 v3))
  repeat refine LS.seq ?_
  refine LS.region rfl ?_
  refine OS.read rfl (e_load 0 rfl rfl rfl rfl rfl) rfl ?_
  refine OS.call noGo rfl (fun _ => rfl) ((mayBe_ct h).mono ?_)
  rintro u L₁ ⟨rfl, e₁⟩
  subst e₁
  refine ⟨_, rfl, ?_⟩
  refine OS.pure rfl (fun _ => rfl) rfl ?_
  refine OS.nil ?_
  unfold findV
  cases hm : mayN n with
  | false =>
    rw [if_neg (by decide)]
    repeat refine LS.seq ?_
    refine LS.cond rfl (fun hc => ?_) (fun hc => ?_)
    · repeat refine LS.seq ?_
      refine LS.region rfl ?_
      refine OS.pure rfl (fun _ => rfl) rfl ?_
      refine OS.pure rfl (fun _ => rfl) rfl ?_
      refine OS.nil ?_
      refine LS.ret ⟨_, fun _ _ => rfl, ?_⟩
      exact ⟨rfl, _, rfl⟩
    · cases hc
  | true =>
    rw [if_pos rfl]
    repeat refine LS.seq ?_
    refine LS.cond rfl (fun hc => ?_) (fun hc => ?_)
    · cases hc
    refine LS.skip ?_
    repeat refine LS.seq ?_
    refine LS.region rfl ?_
    refine OS.pure rfl (fun _ => rfl) rfl ?_
    refine OS.read rfl (e_load 0 rfl rfl rfl rfl rfl) rfl ?_
    refine OS.pure rfl (fun _ => rfl) rfl ?_
    refine OS.call noGo rfl (fun _ => rfl) ((Binary_ct (key := key) h.k hs (mayN_rise hm)).mono ?_)
    rintro u L₁ ⟨rfl, e₁⟩
    subst e₁
    refine ⟨_, rfl, ?_⟩
    refine OS.pure rfl (fun _ => rfl) rfl ?_
    refine OS.pure rfl (fun _ => rfl) rfl ?_
    refine OS.pure rfl (fun _ => rfl) rfl ?_
    refine OS.pure rfl (fun _ => rfl) rfl ?_
    refine OS.nil ?_
    refine LS.ret ⟨_, fun _ _ => rfl, ?_⟩
    exact ⟨rfl, _, rfl⟩
end Go.Proofs.Ytdffhllecojgcaa
