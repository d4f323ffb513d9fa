/- Layer 6: a node's block; are two nodes the same? -/
import Derived.Test.YtdffhllecojgcaaNg
namespace Go.Am
section
variable {P : Program} {o : Oper} {a : Slots} {L L₁ : RL}
/-- A list, copied into a row of its own, which may be longer. -/
theorem e_copyS (i : Nat) {c : Call} {st e e' : TypeId} {sz n N r cap : Nat} {x : Value} {cs new cs' : List Value} (hs : SV sz L x n new) (hpos : 0 < n) (hN : n ≤ N) (hone : allOne new = true) (ho : o.op = .call c) (hc : c.callee = .builtin .copy) (ha : evs a c.args.toList = some [.slice (some ⟨r, 0, none⟩) N cap, x])
    (ht : c.argTypes[0]? = some st) (hu : P.underlying st = some (.slice e)) (hz : sizeB P e = some sz) (hL : L[i]? = some (r, .cells e' cs)) (hlay : lay cs 0 new = some cs') (hset : setL L i (r, .cells e' cs') = some L₁) : ∀ h, Has h L → ∃ h₁, opB P a o h = some (.val (.int .i64 n) h₁) ∧ Has h₁ L₁ := by
  intro h H
  obtain ⟨h₁, e₁⟩ := h.put_some r (some (.cells e' cs'))
  have := setL_eq hset
  subst this
  have hb : Nat.beq n 0 = false := by cases n with | zero => omega | succ n => rfl
  have hmin : Nat.min n N = n := Nat.min_eq_left hN
  refine ⟨h₁, ?_, H.put hL e₁⟩
  simp only [opB, ho, ha, callOpB, hc, copyB, ht, hu, hz, hs.lenB, hmin, hs.first H, hone, hs.notText, hb, H.row hL, hlay, e₁, Bool.true_or, Bool.and_self, ret2, goInt]
end
end Go.Am
namespace Go.Proofs.Ytdffhllecojgcaa
open Go.Am
set_option linter.unusedVariables false
set_option maxRecDepth 20000

theorem makeT_bytes : makeT Try.prog 30 = some (5, 1, 1, [.int .u8 0]) := by kernel_rfl
theorem repL_u8 {n : Nat} : repL [Value.int .u8 0] n = byteCells (List.replicate n 0) := by
  rw [repL_one]; simp [byteCells]
theorem lay_front {bs zs : List UInt8} (h : bs.length ≤ zs.length) : lay (byteCells zs) 0 (byteCells bs) = some (byteCells (bs ++ zs.drop bs.length)) := by
  rw [lay_of (by rw [byteCells_len, byteCells_len]; omega)]
  simp [byteCells, List.map_drop]
/-- A block that is told, or an error. -/
def EncV (n : Nd) (L : RL) (v : Value) (L' : RL) : Prop := ∃ u, v = .tuple #[u, .int .i64 (errN n)] ∧
  ((fitsN n = false ∧ u = .slice none 0 0 ∧ L' = L) ∨ (fitsN n = true ∧ ∃ r, u = .slice (some ⟨r, 0, none⟩) 256 256 ∧ L' = (r, bRow (encN n)) :: L))
theorem enc_len {n : Nd} (h : fitsN n = true) : (encN n).length = 256 := by
  unfold encN
  rw [if_pos h]
  unfold fitsN at h
  simp at h
  simp
  omega
theorem Encode_ct {L : RL} {n : Nd} {v1 v2 v3 : Value} (h : NV L n v1 v2 v3) (hn : n.ks.length ≤ 1000000) : CS Try.prog 12 [ndV n.leaf v1 v2 v3] L fun u L' => EncV n L u L' := by
  suffices g : CS Try.prog 12 [ndV n.leaf v1 v2 v3] L fun u L' => ∃ L₀ X, EncV n L₀ u L' ∧ L₀ = X ++ L by
    refine g.less fun u L' ⟨L₀, X, ⟨w, h1, h2⟩, h3⟩ => ?_
    subst h3
    rcases h2 with ⟨h2, h4, rfl⟩ | ⟨h2, r, h4, rfl⟩
    · exact ⟨L, Sub.suffix, w, h1, .inl ⟨h2, h4, rfl⟩⟩
    · exact ⟨_, Sub.cons Sub.suffix, w, h1, .inr ⟨h2, r, h4, rfl⟩⟩
  refine CS.mk (fn := Try.f12) rfl rfl rfl rfl ?_
  repeat refine LS.seq ?_
  refine LS.region rfl ?_
  refine OS.fresh rfl (e_new (fun _ => rfl) rfl) (fun _ => rfl) (fun rn => ?_)
  refine OS.pure rfl (fun _ => rfl) rfl ?_
  refine OS.pure rfl (fun _ => rfl) rfl ?_
  refine OS.nil ?_
  have h := h.cons (x := (rn, ndRow n.leaf v1 v2 v3))
  repeat refine LS.seq ?_
  refine LS.region rfl ?_
  refine OS.read rfl (e_load 0 rfl rfl rfl rfl rfl) rfl ?_
  refine OS.call noGo rfl (fun _ => rfl) ((mayBe_ct h).mono ?_)
  rintro u L₁ ⟨rfl, e₁⟩
  subst e₁
  refine ⟨_, rfl, ?_⟩
  refine OS.pure rfl (fun _ => rfl) rfl ?_
  refine OS.nil ?_
  cases hm : mayN n with
  | false =>
    repeat refine LS.seq ?_
    refine LS.cond rfl (fun hc => ?_) (fun hc => ?_)
    · repeat refine LS.seq ?_
      refine LS.region rfl ?_
      refine OS.pure rfl (fun _ => rfl) rfl ?_
      refine OS.pure rfl (fun _ => rfl) rfl ?_
      refine OS.nil ?_
      refine LS.ret ⟨_, fun _ _ => rfl, ?_⟩
      exact ⟨_, [_], ⟨_, by unfold errN; rw [hm]; rfl, .inl ⟨by unfold fitsN; rw [hm]; rfl, rfl, rfl⟩⟩, rfl⟩
    · cases hc
  | true =>
    repeat refine LS.seq ?_
    refine LS.cond rfl (fun hc => ?_) (fun hc => ?_)
    · cases hc
    refine LS.skip ?_
    repeat refine LS.seq ?_
    refine LS.region rfl ?_
    refine OS.read rfl (e_load 0 rfl rfl rfl rfl rfl) rfl ?_
    refine OS.call noGo rfl (fun _ => rfl) ((body_ct h hm hn).mono ?_)
    rintro u L' ⟨r, rfl, rfl⟩
    refine ⟨_, rfl, ?_⟩
    refine OS.pure rfl (fun _ => rfl) rfl ?_
    refine OS.nil ?_
    have hle := body_le hm hn
    have hpos : 0 < (bodyN n).length := by unfold bodyN headN; simp
    by_cases hl : (bodyN n).length ≤ 256
    · have hb : (!ileB ((bodyN n).length : Int) 256) = false := by rw [ileB_eq]; simp; omega
      have hf : fitsN n = true := by unfold fitsN; rw [hm, decide_eq_true hl]; rfl
      repeat refine LS.seq ?_
      refine LS.region rfl ?_
      refine OS.pure rfl (fun _ => rfl) rfl ?_
      refine OS.pure rfl (e_len (brow_sv (L := [])) rfl rfl rfl rfl rfl) rfl ?_
      refine OS.pure rfl (e_is (fun _ => rfl) (congrArg Value.bool hb)) rfl ?_
      refine OS.nil ?_
      repeat refine LS.seq ?_
      refine LS.cond rfl (fun hc => ?_) (fun hc => ?_)
      · cases hc
      refine LS.skip ?_
      repeat refine LS.seq ?_
      refine LS.region rfl ?_
      refine OS.fresh rfl (e_make (l := 256) (c := 256) rfl rfl rfl makeT_bytes (Nat.le_refl _) (by omega) (by omega)) (fun _ => rfl) (fun r2 => ?_)
      rw [repL_u8]
      refine OS.pure rfl (fun _ => rfl) rfl ?_
      refine OS.nil ?_
      repeat refine LS.seq ?_
      refine LS.region rfl ?_
      refine OS.pure rfl (fun _ => rfl) rfl ?_
      refine OS.pure rfl (fun _ => rfl) rfl ?_
      refine OS.write rfl (e_copyS 0 (n := (bodyN n).length) (N := 256) (sz := 1) (new := byteCells (bodyN n)) brow_sv.cons hpos hl (byteCells_one _) rfl rfl rfl rfl rfl rfl rfl (lay_front (by simpa using hl)) rfl) rfl ?_
      refine OS.nil ?_
      repeat refine LS.seq ?_
      refine LS.region rfl ?_
      refine OS.pure rfl (fun _ => rfl) rfl ?_
      refine OS.pure rfl (fun _ => rfl) rfl ?_
      refine OS.pure rfl (fun _ => rfl) rfl ?_
      refine OS.nil ?_
      refine LS.ret ⟨_, fun _ _ => rfl, ?_⟩
      refine ⟨(r, bRow (bodyN n)) :: (rn, ndRow n.leaf v1 v2 v3) :: L, [(r, bRow (bodyN n)), (rn, ndRow n.leaf v1 v2 v3)], ⟨_, by unfold errN; rw [if_pos hm, if_pos hl]; rfl, .inr ⟨hf, r2, rfl, ?_⟩⟩, rfl⟩
      unfold encN
      rw [if_pos hf, List.drop_replicate]
    · have hb : (!ileB ((bodyN n).length : Int) 256) = true := by rw [ileB_eq]; simp; omega
      have hf : fitsN n = false := by unfold fitsN; rw [decide_eq_false hl, Bool.and_false]
      repeat refine LS.seq ?_
      refine LS.region rfl ?_
      refine OS.pure rfl (fun _ => rfl) rfl ?_
      refine OS.pure rfl (e_len (brow_sv (L := [])) rfl rfl rfl rfl rfl) rfl ?_
      refine OS.pure rfl (e_is (fun _ => rfl) (congrArg Value.bool hb)) rfl ?_
      refine OS.nil ?_
      repeat refine LS.seq ?_
      refine LS.cond rfl (fun hc => ?_) (fun hc => ?_)
      · repeat refine LS.seq ?_
        refine LS.region rfl ?_
        refine OS.pure rfl (fun _ => rfl) rfl ?_
        refine OS.pure rfl (fun _ => rfl) rfl ?_
        refine OS.nil ?_
        refine LS.ret ⟨_, fun _ _ => rfl, ?_⟩
        exact ⟨_, [_, _], ⟨_, by unfold errN; rw [if_pos hm, if_neg hl]; rfl, .inl ⟨hf, rfl, rfl⟩⟩, rfl⟩
      · cases hc
def IsSl (v : Value) : Prop := v = .slice none 0 0 ∨ ∃ r off n cap, v = .slice (some ⟨r, off, none⟩) n cap
theorem isSl {sz n : Nat} {L : RL} {v : Value} {cs : List Value} (h : SV sz L v n cs) : IsSl v := by
  rcases h with ⟨rfl, _⟩ | ⟨r, off, cap, row, cs₀, rfl, _⟩
  · exact .inl rfl
  · exact .inr ⟨r, off, n, cap, rfl⟩
theorem back_ct {L : RL} {b : Bool} {v1 v2 v3 : Value} (h1 : IsSl v1) (h2 : IsSl v2) (h3 : IsSl v3) : CS Try.prog 20 [ndV b v1 v2 v3] L fun u L' => u = ndV b v1 v2 v3 ∧ L' = L := by
  suffices g : CS Try.prog 20 [ndV b v1 v2 v3] L fun u L' => u = ndV b v1 v2 v3 ∧ ∃ x y, L' = x :: y :: L by
    exact g.less fun u L' ⟨h1, x, y, h2⟩ => ⟨L, by rw [h2]; exact Sub.suffix (X := [x, y]), h1, rfl⟩
  rcases h1 with rfl | ⟨q1, o1, n1, c1, rfl⟩ <;> rcases h2 with rfl | ⟨q2, o2, n2, c2, rfl⟩ <;> rcases h3 with rfl | ⟨q3, o3, n3, c3, rfl⟩
  all_goals
    refine CS.mk (fn := Try.f20) rfl rfl rfl rfl ?_
    repeat refine LS.seq ?_
    refine LS.region rfl ?_
    refine OS.fresh rfl (e_new (fun _ => rfl) rfl) (fun _ => rfl) (fun rn => ?_)
    refine OS.fresh rfl (e_new (fun _ => rfl) rfl) (fun _ => rfl) (fun rc => ?_)
    refine OS.nil ?_
    repeat refine LS.seq ?_
    refine LS.region rfl ?_
    refine OS.pure rfl (fun _ => rfl) rfl ?_
    refine OS.read rfl (e_load 1 rfl rfl rfl rfl rfl) rfl ?_
    refine OS.pure rfl (fun _ => rfl) rfl ?_
    refine OS.read rfl (e_load 1 rfl rfl rfl rfl rfl) rfl ?_
    refine OS.pure rfl (fun _ => rfl) rfl ?_
    refine OS.read rfl (e_load 1 rfl rfl rfl rfl rfl) rfl ?_
    refine OS.pure rfl (fun _ => rfl) rfl ?_
    refine OS.read rfl (e_load 1 rfl rfl rfl rfl rfl) rfl ?_
    refine OS.pure rfl (fun _ => rfl) rfl ?_
    refine OS.write rfl (e_store 0 rfl rfl rfl rfl rfl rfl rfl rfl) rfl ?_
    refine OS.nil ?_
    exact LS.ret ⟨_, res_cell 0 rfl rfl rfl rfl, rfl, _, _, rfl⟩
/-- Two texts stand at one place of two lists. -/
theorem same_loop {α : Type} {A B : List α} {j : Nat} (hA : j < A.length) (hB : j < B.length) (ht : A.take j = B.take j) (he : A[j] = B[j]) : A.take (j + 1) = B.take (j + 1) := by
  rw [List.take_succ_eq_append_getElem hA, List.take_succ_eq_append_getElem hB, ht, he]
theorem same_ne {α : Type} {A B : List α} {j : Nat} (hA : j < A.length) (hB : j < B.length) (he : A[j] ≠ B[j]) : A ≠ B := fun h => he (by subst h; rfl)
def sameN (a b : Nd) : Bool := decide (a.leaf = b.leaf ∧ a.ks = b.ks ∧ a.vs = b.vs ∧ a.kids = b.kids)
theorem Same_ct {L : RL} {a b : Nd} {v1 v2 v3 w1 w2 w3 : Value} (ha : NV L a v1 v2 v3) (hb : NV L b w1 w2 w3) : CS Try.prog 19 [ndV a.leaf v1 v2 v3, ndV b.leaf w1 w2 w3] L fun u L' => u = .bool (sameN a b) ∧ L' = L := by
  suffices g : CS Try.prog 19 [ndV a.leaf v1 v2 v3, ndV b.leaf w1 w2 w3] L fun u L' => u = .bool (sameN a b) ∧ ∃ x y, L' = x :: y :: L by
    exact g.less fun u L' ⟨h1, x, y, h2⟩ => ⟨L, by rw [h2]; exact Sub.suffix (X := [x, y]), h1, rfl⟩
  have hk1 := ha.kn
  have hk2 := ha.vn
  have hk3 := ha.zn
  obtain ⟨la, k1, s1, z1⟩ := a
  obtain ⟨lb, k2, s2, z2⟩ := b
  simp only at hk1 hk2 hk3
  refine CS.mk (fn := Try.f19) rfl rfl rfl rfl ?_
  repeat refine LS.seq ?_
  refine LS.region rfl ?_
  refine OS.fresh rfl (e_new (fun _ => rfl) rfl) (fun _ => rfl) (fun ra => ?_)
  refine OS.fresh rfl (e_new (fun _ => rfl) rfl) (fun _ => rfl) (fun rb => ?_)
  refine OS.pure rfl (fun _ => rfl) rfl ?_
  refine OS.nil ?_
  have ha := (ha.cons (x := (ra, nrRow la v1 v2 v3))).cons (x := (rb, nrRow lb w1 w2 w3))
  have hb := (hb.cons (x := (ra, nrRow la v1 v2 v3))).cons (x := (rb, nrRow lb w1 w2 w3))
  obtain ⟨ka, va, za, _⟩ := ha
  obtain ⟨kb, vb, zb, _⟩ := hb
  simp only at ka va za kb vb zb
  repeat refine LS.seq ?_
  refine LS.mid [2, 3, 39] (fun a L' => L' = (rb, nrRow lb w1 w2 w3) :: (ra, nrRow la v1 v2 v3) :: L ∧ ∃ t : Bool, a = [.chan none, .chan none, .pointer (some ⟨ra, 0, none⟩), .pointer (some ⟨rb, 0, none⟩), .chan none, .chan none, .chan none, .chan none, .chan none, .chan none, .chan none, .chan none, .chan none, .chan none, .chan none, .chan none, .chan none, .chan none, .chan none, .chan none, .chan none, .chan none, .chan none, .chan none, .chan none, .chan none, .chan none, .chan none, .chan none, .chan none, .chan none, .chan none, .chan none, .chan none, .chan none, .chan none, .chan none, .chan none, .chan none, .bool t, .chan none, .chan none, .chan none, .chan none, .chan none, .chan none, .chan none, .chan none, .chan none, .chan none, .chan none, .chan none, .chan none, .chan none, .chan none, .chan none, .chan none, .chan none, .chan none, .chan none, .chan none, .chan none, .chan none, .chan none, .chan none, .chan none, .chan none, .chan none, .chan none, .chan none, .chan none, .chan none, .chan none, .chan none, .chan none, .chan none, .chan none, .chan none, .chan none, .chan none, .chan none, .chan none, .chan none, .chan none, .chan none, .chan none, .chan none, .chan none, .chan none, .chan none, .chan none, .chan none, .chan none, .chan none] ∧ (t = true → sameN ⟨la, k1, s1, z1⟩ ⟨lb, k2, s2, z2⟩ = false) ∧ (t = false → la = lb ∧ k1.length = k2.length ∧ s1.length = s2.length ∧ z1.length = z2.length)) ?_ ?_
  · by_cases e0 : la = lb
    · have b0 : (la != lb) = false := by simp [e0]
      by_cases e1 : k1.length = k2.length
      · have b1 : (!ieqB (k1.length : Int) (k2.length : Nat)) = false := by rw [ieqN, decide_eq_true e1]; rfl
        by_cases e2 : s1.length = s2.length
        · have b2 : (!ieqB (s1.length : Int) (s2.length : Nat)) = false := by rw [ieqN, decide_eq_true e2]; rfl
          have b3 : (!ieqB (z1.length : Int) (z2.length : Nat)) = !decide (z1.length = z2.length) := by rw [ieqN]
          repeat refine LS.seq ?_
          refine LS.region rfl ?_
          refine OS.pure rfl (fun _ => rfl) rfl ?_
          refine OS.read rfl (e_load 1 rfl rfl rfl rfl rfl) rfl ?_
          refine OS.pure rfl (fun _ => rfl) rfl ?_
          refine OS.read rfl (e_load 0 rfl rfl rfl rfl rfl) rfl ?_
          refine OS.pure rfl (e_is (fun _ => rfl) (congrArg Value.bool b0)) rfl ?_
          refine OS.pure rfl (fun _ => rfl) rfl ?_
          refine OS.pure rfl (fun _ => rfl) rfl ?_
          refine OS.read rfl (e_load 1 rfl rfl rfl rfl rfl) rfl ?_
          refine OS.pure rfl (e_len ka rfl rfl rfl rfl rfl) rfl ?_
          refine OS.pure rfl (fun _ => rfl) rfl ?_
          refine OS.read rfl (e_load 0 rfl rfl rfl rfl rfl) rfl ?_
          refine OS.pure rfl (e_len kb rfl rfl rfl rfl rfl) rfl ?_
          refine OS.pure rfl (e_is (fun _ => rfl) (congrArg Value.bool b1)) rfl ?_
          refine OS.pure rfl (fun _ => rfl) rfl ?_
          refine OS.pure rfl (fun _ => rfl) rfl ?_
          refine OS.pure rfl (fun _ => rfl) rfl ?_
          refine OS.read rfl (e_load 1 rfl rfl rfl rfl rfl) rfl ?_
          refine OS.pure rfl (e_len va rfl rfl rfl rfl rfl) rfl ?_
          refine OS.pure rfl (fun _ => rfl) rfl ?_
          refine OS.read rfl (e_load 0 rfl rfl rfl rfl rfl) rfl ?_
          refine OS.pure rfl (e_len vb rfl rfl rfl rfl rfl) rfl ?_
          refine OS.pure rfl (e_is (fun _ => rfl) (congrArg Value.bool b2)) rfl ?_
          refine OS.pure rfl (fun _ => rfl) rfl ?_
          refine OS.pure rfl (fun _ => rfl) rfl ?_
          refine OS.pure rfl (fun _ => rfl) rfl ?_
          refine OS.read rfl (e_load 1 rfl rfl rfl rfl rfl) rfl ?_
          refine OS.pure rfl (e_len za rfl rfl rfl rfl rfl) rfl ?_
          refine OS.pure rfl (fun _ => rfl) rfl ?_
          refine OS.read rfl (e_load 0 rfl rfl rfl rfl rfl) rfl ?_
          refine OS.pure rfl (e_len zb rfl rfl rfl rfl rfl) rfl ?_
          refine OS.pure rfl (e_is (fun _ => rfl) (congrArg Value.bool b3)) rfl ?_
          refine OS.pure rfl (fun _ => rfl) rfl ?_
          refine OS.nil ?_
          refine ⟨rfl, _, rfl, fun h => ?_, fun h => ?_⟩
          · unfold sameN
            rw [decide_eq_false]
            rintro ⟨_, _, _, rfl⟩
            simp at h
          · exact ⟨e0, e1, e2, by simpa using h⟩
        · have b2 : (!ieqB (s1.length : Int) (s2.length : Nat)) = true := by rw [ieqN, decide_eq_false e2]; rfl
          repeat refine LS.seq ?_
          refine LS.region rfl ?_
          refine OS.pure rfl (fun _ => rfl) rfl ?_
          refine OS.read rfl (e_load 1 rfl rfl rfl rfl rfl) rfl ?_
          refine OS.pure rfl (fun _ => rfl) rfl ?_
          refine OS.read rfl (e_load 0 rfl rfl rfl rfl rfl) rfl ?_
          refine OS.pure rfl (e_is (fun _ => rfl) (congrArg Value.bool b0)) rfl ?_
          refine OS.pure rfl (fun _ => rfl) rfl ?_
          refine OS.pure rfl (fun _ => rfl) rfl ?_
          refine OS.read rfl (e_load 1 rfl rfl rfl rfl rfl) rfl ?_
          refine OS.pure rfl (e_len ka rfl rfl rfl rfl rfl) rfl ?_
          refine OS.pure rfl (fun _ => rfl) rfl ?_
          refine OS.read rfl (e_load 0 rfl rfl rfl rfl rfl) rfl ?_
          refine OS.pure rfl (e_len kb rfl rfl rfl rfl rfl) rfl ?_
          refine OS.pure rfl (e_is (fun _ => rfl) (congrArg Value.bool b1)) rfl ?_
          refine OS.pure rfl (fun _ => rfl) rfl ?_
          refine OS.pure rfl (fun _ => rfl) rfl ?_
          refine OS.pure rfl (fun _ => rfl) rfl ?_
          refine OS.read rfl (e_load 1 rfl rfl rfl rfl rfl) rfl ?_
          refine OS.pure rfl (e_len va rfl rfl rfl rfl rfl) rfl ?_
          refine OS.pure rfl (fun _ => rfl) rfl ?_
          refine OS.read rfl (e_load 0 rfl rfl rfl rfl rfl) rfl ?_
          refine OS.pure rfl (e_len vb rfl rfl rfl rfl rfl) rfl ?_
          refine OS.pure rfl (e_is (fun _ => rfl) (congrArg Value.bool b2)) rfl ?_
          refine OS.pure rfl (fun _ => rfl) rfl ?_
          refine OS.pure rfl (fun _ => rfl) rfl ?_
          refine OS.skip rfl rfl ?_
          refine OS.skip rfl rfl ?_
          refine OS.skip rfl rfl ?_
          refine OS.skip rfl rfl ?_
          refine OS.skip rfl rfl ?_
          refine OS.skip rfl rfl ?_
          refine OS.skip rfl rfl ?_
          refine OS.pure rfl (fun _ => rfl) rfl ?_
          refine OS.nil ?_
          refine ⟨rfl, _, rfl, fun h => ?_, fun h => by cases h⟩
          unfold sameN
          rw [decide_eq_false]
          rintro ⟨_, _, rfl, _⟩
          exact e2 rfl
      · have b1 : (!ieqB (k1.length : Int) (k2.length : Nat)) = true := by rw [ieqN, decide_eq_false e1]; rfl
        repeat refine LS.seq ?_
        refine LS.region rfl ?_
        refine OS.pure rfl (fun _ => rfl) rfl ?_
        refine OS.read rfl (e_load 1 rfl rfl rfl rfl rfl) rfl ?_
        refine OS.pure rfl (fun _ => rfl) rfl ?_
        refine OS.read rfl (e_load 0 rfl rfl rfl rfl rfl) rfl ?_
        refine OS.pure rfl (e_is (fun _ => rfl) (congrArg Value.bool b0)) rfl ?_
        refine OS.pure rfl (fun _ => rfl) rfl ?_
        refine OS.pure rfl (fun _ => rfl) rfl ?_
        refine OS.read rfl (e_load 1 rfl rfl rfl rfl rfl) rfl ?_
        refine OS.pure rfl (e_len ka rfl rfl rfl rfl rfl) rfl ?_
        refine OS.pure rfl (fun _ => rfl) rfl ?_
        refine OS.read rfl (e_load 0 rfl rfl rfl rfl rfl) rfl ?_
        refine OS.pure rfl (e_len kb rfl rfl rfl rfl rfl) rfl ?_
        refine OS.pure rfl (e_is (fun _ => rfl) (congrArg Value.bool b1)) rfl ?_
        refine OS.pure rfl (fun _ => rfl) rfl ?_
        refine OS.pure rfl (fun _ => rfl) rfl ?_
        refine OS.skip rfl rfl ?_
        refine OS.skip rfl rfl ?_
        refine OS.skip rfl rfl ?_
        refine OS.skip rfl rfl ?_
        refine OS.skip rfl rfl ?_
        refine OS.skip rfl rfl ?_
        refine OS.skip rfl rfl ?_
        refine OS.pure rfl (fun _ => rfl) rfl ?_
        refine OS.pure rfl (fun _ => rfl) rfl ?_
        refine OS.skip rfl rfl ?_
        refine OS.skip rfl rfl ?_
        refine OS.skip rfl rfl ?_
        refine OS.skip rfl rfl ?_
        refine OS.skip rfl rfl ?_
        refine OS.skip rfl rfl ?_
        refine OS.skip rfl rfl ?_
        refine OS.pure rfl (fun _ => rfl) rfl ?_
        refine OS.nil ?_
        refine ⟨rfl, _, rfl, fun h => ?_, fun h => by cases h⟩
        unfold sameN
        rw [decide_eq_false]
        rintro ⟨_, rfl, _, _⟩
        exact e1 rfl
    · have b0 : (la != lb) = true := by simp [e0]
      repeat refine LS.seq ?_
      refine LS.region rfl ?_
      refine OS.pure rfl (fun _ => rfl) rfl ?_
      refine OS.read rfl (e_load 1 rfl rfl rfl rfl rfl) rfl ?_
      refine OS.pure rfl (fun _ => rfl) rfl ?_
      refine OS.read rfl (e_load 0 rfl rfl rfl rfl rfl) rfl ?_
      refine OS.pure rfl (e_is (fun _ => rfl) (congrArg Value.bool b0)) rfl ?_
      refine OS.pure rfl (fun _ => rfl) rfl ?_
      refine OS.skip rfl rfl ?_
      refine OS.skip rfl rfl ?_
      refine OS.skip rfl rfl ?_
      refine OS.skip rfl rfl ?_
      refine OS.skip rfl rfl ?_
      refine OS.skip rfl rfl ?_
      refine OS.skip rfl rfl ?_
      refine OS.pure rfl (fun _ => rfl) rfl ?_
      refine OS.pure rfl (fun _ => rfl) rfl ?_
      refine OS.skip rfl rfl ?_
      refine OS.skip rfl rfl ?_
      refine OS.skip rfl rfl ?_
      refine OS.skip rfl rfl ?_
      refine OS.skip rfl rfl ?_
      refine OS.skip rfl rfl ?_
      refine OS.skip rfl rfl ?_
      refine OS.pure rfl (fun _ => rfl) rfl ?_
      refine OS.pure rfl (fun _ => rfl) rfl ?_
      refine OS.skip rfl rfl ?_
      refine OS.skip rfl rfl ?_
      refine OS.skip rfl rfl ?_
      refine OS.skip rfl rfl ?_
      refine OS.skip rfl rfl ?_
      refine OS.skip rfl rfl ?_
      refine OS.skip rfl rfl ?_
      refine OS.pure rfl (fun _ => rfl) rfl ?_
      refine OS.nil ?_
      refine ⟨rfl, _, rfl, fun h => ?_, fun h => by cases h⟩
      unfold sameN
      rw [decide_eq_false]
      rintro ⟨rfl, _⟩
      exact e0 rfl
  rintro a L' ⟨rfl, t, rfl, ht1, ht2⟩
  repeat refine LS.seq ?_
  refine LS.cond (b := t) rfl (fun hc => ?_) (fun hc => ?_)
  · repeat refine LS.seq ?_
    refine LS.region rfl ?_
    refine OS.pure rfl (fun _ => rfl) rfl ?_
    refine OS.nil ?_
    refine LS.ret ⟨_, fun _ _ => rfl, ?_⟩
    exact ⟨by rw [ht1 hc]; rfl, _, _, rfl⟩
  obtain ⟨rfl, e1, e2, e3⟩ := ht2 hc
  refine LS.skip ?_
  repeat refine LS.seq ?_
  refine LS.region rfl ?_
  refine OS.pure rfl (fun _ => rfl) rfl ?_
  refine OS.nil ?_
  repeat refine LS.seq ?_
  refine LS.block ?_
  refine LS.loopJ [2, 3, 5] (fun q a L' => ∃ j : Nat, q = k1.length - j ∧ j ≤ k1.length ∧ k1.take j = k2.take j ∧ L' = (rb, nrRow la w1 w2 w3) :: (ra, nrRow la v1 v2 v3) :: L ∧ a = [.chan none, .chan none, .pointer (some ⟨ra, 0, none⟩), .pointer (some ⟨rb, 0, none⟩), .chan none, .int .i64 (j : Nat), .chan none, .chan none, .chan none, .chan none, .chan none, .chan none, .chan none, .chan none, .chan none, .chan none, .chan none, .chan none, .chan none, .chan none, .chan none, .chan none, .chan none, .chan none, .chan none, .chan none, .chan none, .chan none, .chan none, .chan none, .chan none, .chan none, .chan none, .chan none, .chan none, .chan none, .chan none, .chan none, .chan none, .chan none, .chan none, .chan none, .chan none, .chan none, .chan none, .chan none, .chan none, .chan none, .chan none, .chan none, .chan none, .chan none, .chan none, .chan none, .chan none, .chan none, .chan none, .chan none, .chan none, .chan none, .chan none, .chan none, .chan none, .chan none, .chan none, .chan none, .chan none, .chan none, .chan none, .chan none, .chan none, .chan none, .chan none, .chan none, .chan none, .chan none, .chan none, .chan none, .chan none, .chan none, .chan none, .chan none, .chan none, .chan none, .chan none, .chan none, .chan none, .chan none, .chan none, .chan none, .chan none, .chan none, .chan none, .chan none]) (n := k1.length) rfl ⟨0, rfl, by omega, rfl, rfl, rfl⟩ ?_
  rintro q a L' ⟨j, rfl, hj, ht, rfl, rfl⟩
  repeat refine LS.seq ?_
  refine LS.region rfl ?_
  refine OS.pure rfl (fun _ => rfl) rfl ?_
  refine OS.pure rfl (fun _ => rfl) rfl ?_
  refine OS.read rfl (e_load 1 rfl rfl rfl rfl rfl) rfl ?_
  refine OS.pure rfl (e_len ka rfl rfl rfl rfl rfl) rfl ?_
  refine OS.pure rfl (fun _ => rfl) rfl ?_
  refine OS.nil ?_
  repeat refine LS.seq ?_
  refine LS.cond rfl (fun hc => ?_) (fun hc => ?_)
  · have hc : (j : Int) < k1.length := lt_of hc
    have hjA : j < k1.length := by omega
    have hjB : j < k2.length := by omega
    refine LS.skip ?_
    repeat refine LS.seq ?_
    refine LS.block ?_
    repeat refine LS.seq ?_
    refine LS.drawn noGo mixed [(0, false), (1, false), (2, false), (3, false), (4, false), (5, false), (6, false), (7, false), (8, false), (9, false), (10, false)] rfl rfl (by kernel_rfl) ?_
    refine ODS.pure rfl rfl (fun _ => rfl) rfl ?_
    refine ODS.read rfl rfl (e_load 1 rfl rfl rfl rfl rfl) rfl ?_
    refine ODS.pure rfl rfl (fun _ => rfl) rfl ?_
    refine ODS.at1 (j := j) ka (tx_at hjA) rfl rfl rfl rfl rfl rfl rfl (fun r0 o0 row0 cs0 m0 c0 g0 => ⟨_, rfl, ?_⟩)
    refine ODS.read rfl rfl (e_loadm m0 c0 rfl rfl (part_one rfl g0)) rfl ?_
    refine ODS.pure rfl rfl (fun _ => rfl) rfl ?_
    refine ODS.read rfl rfl (e_load 0 rfl rfl rfl rfl rfl) rfl ?_
    refine ODS.pure rfl rfl (fun _ => rfl) rfl ?_
    refine ODS.at1 (j := j) kb (tx_at hjB) rfl rfl rfl rfl rfl rfl rfl (fun r1 o1 row1 cs1 m1 c1 g1 => ⟨_, rfl, ?_⟩)
    refine ODS.read rfl rfl (e_loadm m1 c1 rfl rfl (part_one rfl g1)) rfl ?_
    by_cases he : k1[j] = k2[j]
    · have hb : (!bytesEq k1[j] k2[j]) = false := by rw [bytesEq_eq]; simp [he]
      refine ODS.pure rfl rfl (e_is (fun _ => rfl) (congrArg Value.bool hb)) rfl ?_
      refine ODS.nil ?_
      repeat refine LS.seq ?_
      refine LS.cond rfl (fun hc2 => ?_) (fun hc2 => ?_)
      · cases hc2
      refine LS.skip ?_
      repeat refine LS.seq ?_
      refine LS.region rfl ?_
      refine OS.pure rfl (fun _ => rfl) rfl ?_
      refine OS.pure rfl (e_add (m := j) (n := 1) rfl rfl rfl (in_i64 (by omega) (by omega))) rfl ?_
      refine OS.pure rfl (fun _ => rfl) rfl ?_
      refine OS.nil ?_
      exact ⟨k1.length - (j + 1), by omega, j + 1, rfl, by omega, same_loop hjA hjB ht he, rfl, rfl⟩
    · have hb : (!bytesEq k1[j] k2[j]) = true := by rw [bytesEq_eq]; simp [he]
      refine ODS.pure rfl rfl (e_is (fun _ => rfl) (congrArg Value.bool hb)) rfl ?_
      refine ODS.nil ?_
      repeat refine LS.seq ?_
      refine LS.cond rfl (fun hc2 => ?_) (fun hc2 => ?_)
      · repeat refine LS.seq ?_
        refine LS.region rfl ?_
        refine OS.pure rfl (fun _ => rfl) rfl ?_
        refine OS.nil ?_
        refine LS.ret ⟨_, fun _ _ => rfl, ?_⟩
        exact ⟨by unfold sameN; rw [decide_eq_false (fun hh => same_ne hjA hjB he hh.2.1)]; rfl, _, _, rfl⟩
      · cases hc2
  have hc : (k1.length : Int) ≤ (j : Int) := nlt_of hc
  have hje : j = k1.length := by omega
  subst hje
  rw [List.take_length, e1, List.take_length] at ht
  refine LS.exit ?_
  have hk12 := ht
  clear ht
  repeat refine LS.seq ?_
  refine LS.region rfl ?_
  refine OS.pure rfl (fun _ => rfl) rfl ?_
  refine OS.nil ?_
  repeat refine LS.seq ?_
  refine LS.block ?_
  refine LS.loopJ [2, 3, 6] (fun q a L' => ∃ j : Nat, q = s1.length - j ∧ j ≤ s1.length ∧ s1.take j = s2.take j ∧ L' = (rb, nrRow la w1 w2 w3) :: (ra, nrRow la v1 v2 v3) :: L ∧ a = [.chan none, .chan none, .pointer (some ⟨ra, 0, none⟩), .pointer (some ⟨rb, 0, none⟩), .chan none, .chan none, .int .i64 (j : Nat), .chan none, .chan none, .chan none, .chan none, .chan none, .chan none, .chan none, .chan none, .chan none, .chan none, .chan none, .chan none, .chan none, .chan none, .chan none, .chan none, .chan none, .chan none, .chan none, .chan none, .chan none, .chan none, .chan none, .chan none, .chan none, .chan none, .chan none, .chan none, .chan none, .chan none, .chan none, .chan none, .chan none, .chan none, .chan none, .chan none, .chan none, .chan none, .chan none, .chan none, .chan none, .chan none, .chan none, .chan none, .chan none, .chan none, .chan none, .chan none, .chan none, .chan none, .chan none, .chan none, .chan none, .chan none, .chan none, .chan none, .chan none, .chan none, .chan none, .chan none, .chan none, .chan none, .chan none, .chan none, .chan none, .chan none, .chan none, .chan none, .chan none, .chan none, .chan none, .chan none, .chan none, .chan none, .chan none, .chan none, .chan none, .chan none, .chan none, .chan none, .chan none, .chan none, .chan none, .chan none, .chan none, .chan none, .chan none]) (n := s1.length) rfl ⟨0, rfl, by omega, rfl, rfl, rfl⟩ ?_
  rintro q a L' ⟨j, rfl, hj, ht, rfl, rfl⟩
  repeat refine LS.seq ?_
  refine LS.region rfl ?_
  refine OS.pure rfl (fun _ => rfl) rfl ?_
  refine OS.pure rfl (fun _ => rfl) rfl ?_
  refine OS.read rfl (e_load 1 rfl rfl rfl rfl rfl) rfl ?_
  refine OS.pure rfl (e_len va rfl rfl rfl rfl rfl) rfl ?_
  refine OS.pure rfl (fun _ => rfl) rfl ?_
  refine OS.nil ?_
  repeat refine LS.seq ?_
  refine LS.cond rfl (fun hc => ?_) (fun hc => ?_)
  · have hc : (j : Int) < s1.length := lt_of hc
    have hjA : j < s1.length := by omega
    have hjB : j < s2.length := by omega
    refine LS.skip ?_
    repeat refine LS.seq ?_
    refine LS.block ?_
    repeat refine LS.seq ?_
    refine LS.drawn noGo mixed [(0, false), (1, false), (2, false), (3, false), (4, false), (5, false), (6, false), (7, false), (8, false), (9, false), (10, false)] rfl rfl (by kernel_rfl) ?_
    refine ODS.pure rfl rfl (fun _ => rfl) rfl ?_
    refine ODS.read rfl rfl (e_load 1 rfl rfl rfl rfl rfl) rfl ?_
    refine ODS.pure rfl rfl (fun _ => rfl) rfl ?_
    refine ODS.at1 (j := j) va (tx_at hjA) rfl rfl rfl rfl rfl rfl rfl (fun r0 o0 row0 cs0 m0 c0 g0 => ⟨_, rfl, ?_⟩)
    refine ODS.read rfl rfl (e_loadm m0 c0 rfl rfl (part_one rfl g0)) rfl ?_
    refine ODS.pure rfl rfl (fun _ => rfl) rfl ?_
    refine ODS.read rfl rfl (e_load 0 rfl rfl rfl rfl rfl) rfl ?_
    refine ODS.pure rfl rfl (fun _ => rfl) rfl ?_
    refine ODS.at1 (j := j) vb (tx_at hjB) rfl rfl rfl rfl rfl rfl rfl (fun r1 o1 row1 cs1 m1 c1 g1 => ⟨_, rfl, ?_⟩)
    refine ODS.read rfl rfl (e_loadm m1 c1 rfl rfl (part_one rfl g1)) rfl ?_
    by_cases he : s1[j] = s2[j]
    · have hb : (!bytesEq s1[j] s2[j]) = false := by rw [bytesEq_eq]; simp [he]
      refine ODS.pure rfl rfl (e_is (fun _ => rfl) (congrArg Value.bool hb)) rfl ?_
      refine ODS.nil ?_
      repeat refine LS.seq ?_
      refine LS.cond rfl (fun hc2 => ?_) (fun hc2 => ?_)
      · cases hc2
      refine LS.skip ?_
      repeat refine LS.seq ?_
      refine LS.region rfl ?_
      refine OS.pure rfl (fun _ => rfl) rfl ?_
      refine OS.pure rfl (e_add (m := j) (n := 1) rfl rfl rfl (in_i64 (by omega) (by omega))) rfl ?_
      refine OS.pure rfl (fun _ => rfl) rfl ?_
      refine OS.nil ?_
      exact ⟨s1.length - (j + 1), by omega, j + 1, rfl, by omega, same_loop hjA hjB ht he, rfl, rfl⟩
    · have hb : (!bytesEq s1[j] s2[j]) = true := by rw [bytesEq_eq]; simp [he]
      refine ODS.pure rfl rfl (e_is (fun _ => rfl) (congrArg Value.bool hb)) rfl ?_
      refine ODS.nil ?_
      repeat refine LS.seq ?_
      refine LS.cond rfl (fun hc2 => ?_) (fun hc2 => ?_)
      · repeat refine LS.seq ?_
        refine LS.region rfl ?_
        refine OS.pure rfl (fun _ => rfl) rfl ?_
        refine OS.nil ?_
        refine LS.ret ⟨_, fun _ _ => rfl, ?_⟩
        exact ⟨by unfold sameN; rw [decide_eq_false (fun hh => same_ne hjA hjB he hh.2.2.1)]; rfl, _, _, rfl⟩
      · cases hc2
  have hc : (s1.length : Int) ≤ (j : Int) := nlt_of hc
  have hje : j = s1.length := by omega
  subst hje
  rw [List.take_length, e2, List.take_length] at ht
  refine LS.exit ?_
  have hs12 := ht
  clear ht
  repeat refine LS.seq ?_
  refine LS.region rfl ?_
  refine OS.pure rfl (fun _ => rfl) rfl ?_
  refine OS.nil ?_
  repeat refine LS.seq ?_
  refine LS.block ?_
  refine LS.loopJ [2, 3, 7] (fun q a L' => ∃ j : Nat, q = z1.length - j ∧ j ≤ z1.length ∧ z1.take j = z2.take j ∧ L' = (rb, nrRow la w1 w2 w3) :: (ra, nrRow la v1 v2 v3) :: L ∧ a = [.chan none, .chan none, .pointer (some ⟨ra, 0, none⟩), .pointer (some ⟨rb, 0, none⟩), .chan none, .chan none, .chan none, .int .i64 (j : Nat), .chan none, .chan none, .chan none, .chan none, .chan none, .chan none, .chan none, .chan none, .chan none, .chan none, .chan none, .chan none, .chan none, .chan none, .chan none, .chan none, .chan none, .chan none, .chan none, .chan none, .chan none, .chan none, .chan none, .chan none, .chan none, .chan none, .chan none, .chan none, .chan none, .chan none, .chan none, .chan none, .chan none, .chan none, .chan none, .chan none, .chan none, .chan none, .chan none, .chan none, .chan none, .chan none, .chan none, .chan none, .chan none, .chan none, .chan none, .chan none, .chan none, .chan none, .chan none, .chan none, .chan none, .chan none, .chan none, .chan none, .chan none, .chan none, .chan none, .chan none, .chan none, .chan none, .chan none, .chan none, .chan none, .chan none, .chan none, .chan none, .chan none, .chan none, .chan none, .chan none, .chan none, .chan none, .chan none, .chan none, .chan none, .chan none, .chan none, .chan none, .chan none, .chan none, .chan none, .chan none, .chan none, .chan none]) (n := z1.length) rfl ⟨0, rfl, by omega, rfl, rfl, rfl⟩ ?_
  rintro q a L' ⟨j, rfl, hj, ht, rfl, rfl⟩
  repeat refine LS.seq ?_
  refine LS.region rfl ?_
  refine OS.pure rfl (fun _ => rfl) rfl ?_
  refine OS.pure rfl (fun _ => rfl) rfl ?_
  refine OS.read rfl (e_load 1 rfl rfl rfl rfl rfl) rfl ?_
  refine OS.pure rfl (e_len za rfl rfl rfl rfl rfl) rfl ?_
  refine OS.pure rfl (fun _ => rfl) rfl ?_
  refine OS.nil ?_
  repeat refine LS.seq ?_
  refine LS.cond rfl (fun hc => ?_) (fun hc => ?_)
  · have hc : (j : Int) < z1.length := lt_of hc
    have hjA : j < z1.length := by omega
    have hjB : j < z2.length := by omega
    refine LS.skip ?_
    repeat refine LS.seq ?_
    refine LS.block ?_
    repeat refine LS.seq ?_
    refine LS.drawn noGo mixed [(0, false), (1, false), (2, false), (3, false), (4, false), (5, false), (6, false), (7, false), (8, false), (9, false), (10, false)] rfl rfl (by kernel_rfl) ?_
    refine ODS.pure rfl rfl (fun _ => rfl) rfl ?_
    refine ODS.read rfl rfl (e_load 1 rfl rfl rfl rfl rfl) rfl ?_
    refine ODS.pure rfl rfl (fun _ => rfl) rfl ?_
    refine ODS.at1 (j := j) za (nums_at hjA) rfl rfl rfl rfl rfl rfl rfl (fun r0 o0 row0 cs0 m0 c0 g0 => ⟨_, rfl, ?_⟩)
    refine ODS.read rfl rfl (e_loadm m0 c0 rfl rfl (part_one rfl g0)) rfl ?_
    refine ODS.pure rfl rfl (fun _ => rfl) rfl ?_
    refine ODS.read rfl rfl (e_load 0 rfl rfl rfl rfl rfl) rfl ?_
    refine ODS.pure rfl rfl (fun _ => rfl) rfl ?_
    refine ODS.at1 (j := j) zb (nums_at hjB) rfl rfl rfl rfl rfl rfl rfl (fun r1 o1 row1 cs1 m1 c1 g1 => ⟨_, rfl, ?_⟩)
    refine ODS.read rfl rfl (e_loadm m1 c1 rfl rfl (part_one rfl g1)) rfl ?_
    by_cases he : z1[j] = z2[j]
    · have hb : (!ieqB z1[j] z2[j]) = false := by rw [ieqB_eq]; simp [he]
      refine ODS.pure rfl rfl (e_is (fun _ => rfl) (congrArg Value.bool hb)) rfl ?_
      refine ODS.nil ?_
      repeat refine LS.seq ?_
      refine LS.cond rfl (fun hc2 => ?_) (fun hc2 => ?_)
      · cases hc2
      refine LS.skip ?_
      repeat refine LS.seq ?_
      refine LS.region rfl ?_
      refine OS.pure rfl (fun _ => rfl) rfl ?_
      refine OS.pure rfl (e_add (m := j) (n := 1) rfl rfl rfl (in_i64 (by omega) (by omega))) rfl ?_
      refine OS.pure rfl (fun _ => rfl) rfl ?_
      refine OS.nil ?_
      exact ⟨z1.length - (j + 1), by omega, j + 1, rfl, by omega, same_loop hjA hjB ht he, rfl, rfl⟩
    · have hb : (!ieqB z1[j] z2[j]) = true := by rw [ieqB_eq]; simp [he]
      refine ODS.pure rfl rfl (e_is (fun _ => rfl) (congrArg Value.bool hb)) rfl ?_
      refine ODS.nil ?_
      repeat refine LS.seq ?_
      refine LS.cond rfl (fun hc2 => ?_) (fun hc2 => ?_)
      · repeat refine LS.seq ?_
        refine LS.region rfl ?_
        refine OS.pure rfl (fun _ => rfl) rfl ?_
        refine OS.nil ?_
        refine LS.ret ⟨_, fun _ _ => rfl, ?_⟩
        exact ⟨by unfold sameN; rw [decide_eq_false (fun hh => same_ne hjA hjB he hh.2.2.2)]; rfl, _, _, rfl⟩
      · cases hc2
  have hc : (z1.length : Int) ≤ (j : Int) := nlt_of hc
  have hje : j = z1.length := by omega
  subst hje
  rw [List.take_length, e3, List.take_length] at ht
  refine LS.exit ?_
  repeat refine LS.seq ?_
  refine LS.region rfl ?_
  refine OS.pure rfl (fun _ => rfl) rfl ?_
  refine OS.nil ?_
  refine LS.ret ⟨_, fun _ _ => rfl, ?_⟩
  exact ⟨by unfold sameN; rw [decide_eq_true ⟨rfl, hk12, hs12, ht⟩]; rfl, _, _, rfl⟩
end Go.Proofs.Ytdffhllecojgcaa
