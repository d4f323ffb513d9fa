/- Layer 1: readers, the program's and the document's, whose bytes lie in rows that are told. -/
import Derived.Test.YtnfenpkkhkdkhaaLg
namespace Go.Proofs.Ytnfenpkkhkdkhaa.T
open Go.Am
set_option linter.unusedVariables false
set_option maxRecDepth 20000

abbrev rrRowOf (v : Value) (f : Bool) : ARow := .cells 81 [v, .bool f]
def RDR (T M : RL) (r : Nat) (s : St) (L : RL) : Prop := ∃ v, L = (r, rdRowOf v s.2) :: M ∧ OV T v s.1
def RRR (T M : RL) (r : Nat) (s : St) (L : RL) : Prop := ∃ v, L = (r, rrRowOf v s.2) :: M ∧ OV T v s.1

/-- A part of bytes, in the same rows. -/
theorem e_cutB {P : Program} {o : Oper} {a : Slots} {T L : RL} {t : TypeId} {x : Operand} {lo hi : Option Operand} {lo' hi' : Option Value} {v : Value} {l u : Nat} {bs : List UInt8} (hT : ∀ p, p ∈ T → p ∈ L) (hs : OV T v bs) (ho : o.op = .slice t x lo hi none) (hx : aev a x = some v)
    (hlo : optEv a lo = some lo') (hhi : optEv a hi = some hi') (bl : boundB lo' 0 = some l) (bu : boundB hi' bs.length = some u) (ht : P.underlying t = some (.slice 5)) (hz : sizeB P 5 = some 1) (hu : u ≤ bs.length) (hl : l ≤ u) :
    ∃ v', OV T v' ((bs.drop l).take (u - l)) ∧ ∀ h, Has h L → opB P a o h = some (.val v' h) := by
  have hlen : ((bs.drop l).take (u - l)).length = u - l := by simp; omega
  rcases hs with ⟨rfl, rfl⟩ | ⟨r, off, C, rfl, hm, hc⟩
  · have hu0 : u = 0 := by simpa using hu
    subst hu0
    have hl0 : l = 0 := by omega
    subst hl0
    refine ⟨.slice none 0 0, .inl ⟨rfl, by simp⟩, fun h _ => ?_⟩
    have hm' : optEv a none = some none := rfl
    have hcb : Nat.beq 0 openCap = false := beq_false (by decide)
    have h1 : Nat.ble 0 (farB 0 0) = true := rfl
    have h2 : Nat.ble 0 0 = true := rfl
    have h3 : rowOk h 5 none 0 = true := by unfold rowOk; rw [hcb]; rfl
    have bu' : boundB hi' 0 = some 0 := bu
    simp only [opB, ho, hx, hlo, hhi, hm', sliceB, ht, bu', bl, hz, h1, h2, h3, Bool.true_and, moved, hcb, ret]
  · have hcut : cut C (off + l * 1) (u - l) = some (byteCells ((bs.drop l).take (u - l))) := by
      rw [Nat.mul_one]
      exact cut_cut hc (by rw [cut_bytes (by omega)])
    obtain ⟨i, hi⟩ := List.mem_iff_getElem?.1 (hT _ hm)
    exact ⟨.slice (some ⟨r, off + l * 1, none⟩) (u - l) openCap, .inr ⟨r, _, C, by rw [hlen], hm, by rw [hlen]; exact hcut⟩, e_slice i ho hx hlo hhi bl bu ht hz hu hl hi⟩
theorem OS.cutT {P : Program} {ops rest : List Oper} {o : Oper} {a : Slots} {T L : RL} {K : Slots → RL → Prop} {t : TypeId} {x : Operand} {lo hi : Option Operand} {lo' hi' : Option Value} {v : Value} {l u : Nat} {bs : List UInt8} (hT : ∀ p, p ∈ T → p ∈ L) (hs : OV T v bs) (hw : wantedB ops o a = true) (ho : o.op = .slice t x lo hi none) (hx : aev a x = some v)
    (hlo : optEv a lo = some lo') (hhi : optEv a hi = some hi') (bl : boundB lo' 0 = some l) (bu : boundB hi' bs.length = some u) (ht : P.underlying t = some (.slice 5)) (hz : sizeB P 5 = some 1) (hu : u ≤ bs.length) (hl : l ≤ u)
    (hk : ∀ v', OV T v' ((bs.drop l).take (u - l)) → ∃ a₁, putAt a o.dst v' = some a₁ ∧ OS P ops rest a₁ L K) : OS P ops (o :: rest) a L K := by
  obtain ⟨v', h1, h2⟩ := e_cutB hT hs ho hx hlo hhi bl bu ht hz hu hl
  obtain ⟨a₁, ep, k⟩ := hk v' h1
  exact Am.OS.read hw h2 ep k
theorem ODS.cutT {P : Program} {ops : List Oper} {ms : List Nat} {sched : List (Nat × Bool)} {dn : Dn} {q : Nat} {o : Oper} {a : Slots} {T L : RL} {K : Slots → RL → Prop} {t : TypeId} {x : Operand} {lo hi : Option Operand} {lo' hi' : Option Value} {v : Value} {l u : Nat} {bs : List UInt8} (hT : ∀ p, p ∈ T → p ∈ L) (hs : OV T v bs) (hq : ops[q]? = some o) (hw : wantedB ops o a = true) (ho : o.op = .slice t x lo hi none) (hx : aev a x = some v)
    (hlo : optEv a lo = some lo') (hhi : optEv a hi = some hi') (bl : boundB lo' 0 = some l) (bu : boundB hi' bs.length = some u) (ht : P.underlying t = some (.slice 5)) (hz : sizeB P 5 = some 1) (hu : u ≤ bs.length) (hl : l ≤ u)
    (hk : ∀ v', OV T v' ((bs.drop l).take (u - l)) → ∃ a₁, putAt a o.dst v' = some a₁ ∧ ODS P ops ms K sched ((q, a, v') :: dn) a₁ L) : ODS P ops ms K ((q, false) :: sched) dn a L := by
  obtain ⟨v', h1, h2⟩ := e_cutB hT hs ho hx hlo hhi bl bu ht hz hu hl
  obtain ⟨a₁, ep, k⟩ := hk v' h1
  exact Am.ODS.read hq hw h2 ep k
theorem OV.one {T : RL} {v : Value} {bs : List UInt8} (h : OV T v bs) : allOne v.cells.toList = true ∧ v.cells.toList = [v] := by
  rcases h with ⟨rfl, _⟩ | ⟨_, _, _, rfl, _⟩ <;> exact ⟨rfl, rfl⟩

theorem pass_ct {M : RL} {r k : Nat} {v : Value} {f : Bool} {bs : List UInt8} {T : RL} (hT : ∀ p, p ∈ T → p ∈ M) (hv : OV T v bs) (hk : k ≤ bs.length) : CS Try.prog 86 [.pointer (some ⟨r, 0, none⟩), .int .i64 (k : Nat)] ((r, rdRowOf v f) :: M) fun v' L' => RDR T M r (bs.drop k, f) L' := by
  refine CS.mk (fn := Try.f86) rfl rfl rfl rfl ?_
  repeat refine LS.seq ?_
  refine LS.region rfl ?_
  refine OS.pure rfl (fun _ => rfl) rfl ?_
  refine OS.pure rfl (fun _ => rfl) rfl ?_
  refine OS.pure rfl (fun _ => rfl) rfl ?_
  refine OS.pure rfl (fun _ => rfl) rfl ?_
  refine OS.read rfl (e_load 0 rfl rfl rfl rfl rfl) rfl ?_
  refine OS.pure rfl (fun _ => rfl) rfl ?_
  refine OS.cutT (l := k) (u := bs.length) (fun p hp => List.mem_cons_of_mem _ (hT p hp)) hv rfl rfl rfl rfl rfl bound_nat rfl rfl rfl (by omega) hk (fun v' hv' => ?_)
  rw [List.take_of_length_le (by simp)] at hv'
  have hone := OV.one hv'
  refine ⟨_, rfl, ?_⟩
  refine OS.pure rfl (fun _ => rfl) rfl ?_
  refine OS.pure rfl (fun _ => rfl) rfl ?_
  refine OS.write rfl (e_store 0 (n := 1) (cs' := [v', .bool f]) rfl rfl rfl rfl rfl (by rw [hone.1, hone.2]; rfl) (by rw [hone.2]; rfl) rfl) rfl ?_
  refine OS.nil ?_
  exact ⟨_, fun _ _ => rfl, v', rfl, hv'⟩

theorem takeNum_ct {M : RL} {r : Nat} {bs : List UInt8} {f : Bool} {v : Value} {T : RL} (hT : ∀ p, p ∈ T → p ∈ M) (hv : OV T v bs) (hn : bs.length ≤ 9223372036854775807) :
    CS Try.prog 72 [.pointer (some ⟨r, 0, none⟩), .func (.func 73) #[] #[]] ((r, rdRowOf v f) :: M) fun v' L' => v' = .int .i64 (tk (0 : Int) (unz (gat bs).1) (gat bs).2 (bs, f)).1 ∧ RDR T M r (tk (0 : Int) (unz (gat bs).1) (gat bs).2 (bs, f)).2 L' := by
  have hkl : (gat bs).2 ≤ bs.length := gat_len bs
  have hvM := (hv.mono hT).cons (x := (r, rdRowOf v f))
  refine CS.mk (fn := Try.f72) rfl rfl rfl rfl ?_
  repeat refine LS.seq ?_
  refine LS.region rfl ?_
  refine OS.pure rfl (fun _ => rfl) rfl ?_
  refine OS.nil ?_
  repeat refine LS.seq ?_
  refine LS.region rfl ?_
  refine OS.pure rfl (fun _ => rfl) rfl ?_
  refine OS.nil ?_
  repeat refine LS.seq ?_
  refine LS.region rfl ?_
  refine OS.pure rfl (fun _ => rfl) rfl ?_
  refine OS.call noGo rfl (fun _ => rfl) ((OK_ct).mono ?_)
  rintro v' L' ⟨rfl, rfl⟩
  cases f with
  | true =>
    refine ⟨_, rfl, ?_⟩
    refine OS.pure rfl (fun _ => rfl) rfl ?_
    refine OS.nil ?_
    refine LS.cond rfl (fun hc => ?_) (fun hc => by cases hc)
    repeat refine LS.seq ?_
    refine LS.region rfl ?_
    refine OS.pure rfl (fun _ => rfl) rfl ?_
    refine OS.pure rfl (fun _ => rfl) rfl ?_
    refine OS.nil ?_
    refine LS.ret ⟨_, fun _ _ => rfl, ?_⟩
    exact ⟨rfl, v, rfl, hv⟩
  | false =>
    refine ⟨_, rfl, ?_⟩
    refine OS.pure rfl (fun _ => rfl) rfl ?_
    refine OS.nil ?_
    refine LS.cond rfl (fun hc => by cases hc) (fun hc => ?_)
    refine LS.skip ?_
    repeat refine LS.seq ?_
    refine LS.region rfl ?_
    refine OS.pure rfl (fun _ => rfl) rfl ?_
    refine OS.pure rfl (fun _ => rfl) rfl ?_
    refine OS.pure rfl (fun _ => rfl) rfl ?_
    refine OS.pure rfl (fun _ => rfl) rfl ?_
    refine OS.pure rfl (fun _ => rfl) rfl ?_
    refine OS.read rfl (e_load 0 rfl rfl rfl rfl rfl) rfl ?_
    refine OS.call noGo rfl (fun _ => rfl) ((numAt_ct hvM hn).mono ?_)
    rintro v' L' ⟨rfl, rfl⟩
    refine ⟨_, rfl, ?_⟩
    refine OS.pure rfl (fun _ => rfl) rfl ?_
    refine OS.pure rfl (fun _ => rfl) rfl ?_
    refine OS.pure rfl (fun _ => rfl) rfl ?_
    refine OS.pure rfl (fun _ => rfl) rfl ?_
    refine OS.pure rfl (fun _ => rfl) rfl ?_
    refine OS.nil ?_
    by_cases hz : (gat bs).2 = 0
    · have hb1 : ieqB (((gat bs).2 : Nat) : Int) 0 = true := by rw [ieqB_eq]; simp; omega
      repeat refine LS.seq ?_
      refine LS.region rfl ?_
      refine OS.pure rfl (fun _ => rfl) rfl ?_
      refine OS.pure rfl (e_is (fun _ => rfl) (congrArg Value.bool hb1)) rfl ?_
      refine OS.nil ?_
      refine LS.cond rfl (fun hc => ?_) (fun hc => by cases hc)
      repeat refine LS.seq ?_
      refine LS.region rfl ?_
      refine OS.pure rfl (fun _ => rfl) rfl ?_
      refine OS.pure rfl (fun _ => rfl) rfl ?_
      refine OS.pure rfl (fun _ => rfl) rfl ?_
      refine OS.call noGo rfl (fun _ => rfl) ((fail_ct).mono ?_)
      rintro v' L' rfl
      refine ⟨_, rfl, ?_⟩
      refine OS.nil ?_
      repeat refine LS.seq ?_
      refine LS.region rfl ?_
      refine OS.pure rfl (fun _ => rfl) rfl ?_
      refine OS.pure rfl (fun _ => rfl) rfl ?_
      refine OS.nil ?_
      refine LS.ret ⟨_, fun _ _ => rfl, ?_⟩
      rw [hz, tk_none]
      exact ⟨rfl, _, rfl, .inl ⟨rfl, rfl⟩⟩
    · have hb1 : ieqB (((gat bs).2 : Nat) : Int) 0 = false := by rw [ieqB_eq]; simp; omega
      repeat refine LS.seq ?_
      refine LS.region rfl ?_
      refine OS.pure rfl (fun _ => rfl) rfl ?_
      refine OS.pure rfl (e_is (fun _ => rfl) (congrArg Value.bool hb1)) rfl ?_
      refine OS.nil ?_
      refine LS.cond rfl (fun hc => by cases hc) (fun hc => ?_)
      refine LS.skip ?_
      repeat refine LS.seq ?_
      refine LS.region rfl ?_
      refine OS.pure rfl (fun _ => rfl) rfl ?_
      refine OS.pure rfl (fun _ => rfl) rfl ?_
      refine OS.pure rfl (fun _ => rfl) rfl ?_
      refine OS.pure rfl (fun _ => rfl) rfl ?_
      refine OS.call noGo rfl (fun _ => rfl) ((pass_ct (k := (gat bs).2) hT hv hkl).mono ?_)
      rintro v' L' hr
      refine ⟨_, rfl, ?_⟩
      refine OS.nil ?_
      repeat refine LS.seq ?_
      refine LS.region rfl ?_
      refine OS.pure rfl (fun _ => rfl) rfl ?_
      refine OS.pure rfl (fun _ => rfl) rfl ?_
      refine OS.nil ?_
      refine LS.ret ⟨_, fun _ _ => rfl, ?_⟩
      rw [tk_some hz]
      exact ⟨rfl, hr⟩

theorem takeFlag_ct {M : RL} {r : Nat} {bs : List UInt8} {f : Bool} {v : Value} {T : RL} (hT : ∀ p, p ∈ T → p ∈ M) (hv : OV T v bs) (hn : bs.length ≤ 9223372036854775807) :
    CS Try.prog 80 [.pointer (some ⟨r, 0, none⟩), .func (.func 81) #[] #[]] ((r, rdRowOf v f) :: M) fun v' L' => v' = .bool (tk false (fAt bs).1 (fAt bs).2 (bs, f)).1 ∧ RDR T M r (tk false (fAt bs).1 (fAt bs).2 (bs, f)).2 L' := by
  have hkl : (fAt bs).2 ≤ bs.length := fAt_len bs
  have hvM := (hv.mono hT).cons (x := (r, rdRowOf v f))
  refine CS.mk (fn := Try.f80) rfl rfl rfl rfl ?_
  repeat refine LS.seq ?_
  refine LS.region rfl ?_
  refine OS.pure rfl (fun _ => rfl) rfl ?_
  refine OS.nil ?_
  repeat refine LS.seq ?_
  refine LS.region rfl ?_
  refine OS.pure rfl (fun _ => rfl) rfl ?_
  refine OS.nil ?_
  repeat refine LS.seq ?_
  refine LS.region rfl ?_
  refine OS.pure rfl (fun _ => rfl) rfl ?_
  refine OS.call noGo rfl (fun _ => rfl) ((OK_ct).mono ?_)
  rintro v' L' ⟨rfl, rfl⟩
  cases f with
  | true =>
    refine ⟨_, rfl, ?_⟩
    refine OS.pure rfl (fun _ => rfl) rfl ?_
    refine OS.nil ?_
    refine LS.cond rfl (fun hc => ?_) (fun hc => by cases hc)
    repeat refine LS.seq ?_
    refine LS.region rfl ?_
    refine OS.pure rfl (fun _ => rfl) rfl ?_
    refine OS.pure rfl (fun _ => rfl) rfl ?_
    refine OS.nil ?_
    refine LS.ret ⟨_, fun _ _ => rfl, ?_⟩
    exact ⟨rfl, v, rfl, hv⟩
  | false =>
    refine ⟨_, rfl, ?_⟩
    refine OS.pure rfl (fun _ => rfl) rfl ?_
    refine OS.nil ?_
    refine LS.cond rfl (fun hc => by cases hc) (fun hc => ?_)
    refine LS.skip ?_
    repeat refine LS.seq ?_
    refine LS.region rfl ?_
    refine OS.pure rfl (fun _ => rfl) rfl ?_
    refine OS.pure rfl (fun _ => rfl) rfl ?_
    refine OS.pure rfl (fun _ => rfl) rfl ?_
    refine OS.pure rfl (fun _ => rfl) rfl ?_
    refine OS.pure rfl (fun _ => rfl) rfl ?_
    refine OS.read rfl (e_load 0 rfl rfl rfl rfl rfl) rfl ?_
    refine OS.call noGo rfl (fun _ => rfl) ((flagAt_ct hvM).mono ?_)
    rintro v' L' ⟨rfl, rfl⟩
    refine ⟨_, rfl, ?_⟩
    refine OS.pure rfl (fun _ => rfl) rfl ?_
    refine OS.pure rfl (fun _ => rfl) rfl ?_
    refine OS.pure rfl (fun _ => rfl) rfl ?_
    refine OS.pure rfl (fun _ => rfl) rfl ?_
    refine OS.pure rfl (fun _ => rfl) rfl ?_
    refine OS.nil ?_
    by_cases hz : (fAt bs).2 = 0
    · have hb1 : ieqB (((fAt bs).2 : Nat) : Int) 0 = true := by rw [ieqB_eq]; simp; omega
      repeat refine LS.seq ?_
      refine LS.region rfl ?_
      refine OS.pure rfl (fun _ => rfl) rfl ?_
      refine OS.pure rfl (e_is (fun _ => rfl) (congrArg Value.bool hb1)) rfl ?_
      refine OS.nil ?_
      refine LS.cond rfl (fun hc => ?_) (fun hc => by cases hc)
      repeat refine LS.seq ?_
      refine LS.region rfl ?_
      refine OS.pure rfl (fun _ => rfl) rfl ?_
      refine OS.pure rfl (fun _ => rfl) rfl ?_
      refine OS.pure rfl (fun _ => rfl) rfl ?_
      refine OS.call noGo rfl (fun _ => rfl) ((fail_ct).mono ?_)
      rintro v' L' rfl
      refine ⟨_, rfl, ?_⟩
      refine OS.nil ?_
      repeat refine LS.seq ?_
      refine LS.region rfl ?_
      refine OS.pure rfl (fun _ => rfl) rfl ?_
      refine OS.pure rfl (fun _ => rfl) rfl ?_
      refine OS.nil ?_
      refine LS.ret ⟨_, fun _ _ => rfl, ?_⟩
      rw [hz, tk_none]
      exact ⟨rfl, _, rfl, .inl ⟨rfl, rfl⟩⟩
    · have hb1 : ieqB (((fAt bs).2 : Nat) : Int) 0 = false := by rw [ieqB_eq]; simp; omega
      repeat refine LS.seq ?_
      refine LS.region rfl ?_
      refine OS.pure rfl (fun _ => rfl) rfl ?_
      refine OS.pure rfl (e_is (fun _ => rfl) (congrArg Value.bool hb1)) rfl ?_
      refine OS.nil ?_
      refine LS.cond rfl (fun hc => by cases hc) (fun hc => ?_)
      refine LS.skip ?_
      repeat refine LS.seq ?_
      refine LS.region rfl ?_
      refine OS.pure rfl (fun _ => rfl) rfl ?_
      refine OS.pure rfl (fun _ => rfl) rfl ?_
      refine OS.pure rfl (fun _ => rfl) rfl ?_
      refine OS.pure rfl (fun _ => rfl) rfl ?_
      refine OS.call noGo rfl (fun _ => rfl) ((pass_ct (k := (fAt bs).2) hT hv hkl).mono ?_)
      rintro v' L' hr
      refine ⟨_, rfl, ?_⟩
      refine OS.nil ?_
      repeat refine LS.seq ?_
      refine LS.region rfl ?_
      refine OS.pure rfl (fun _ => rfl) rfl ?_
      refine OS.pure rfl (fun _ => rfl) rfl ?_
      refine OS.nil ?_
      refine LS.ret ⟨_, fun _ _ => rfl, ?_⟩
      rw [tk_some hz]
      exact ⟨rfl, hr⟩

theorem takeCount_ct {M : RL} {r : Nat} {bs : List UInt8} {f : Bool} {v : Value} {rm : Nat} {most : Int} (h0 : -9223372036854775808 ≤ most) (h1 : most ≤ 9223372036854775807) (hm : (rm, .cells 3 [.int .i64 most]) ∈ M) {T : RL} (hT : ∀ p, p ∈ T → p ∈ M) (hv : OV T v bs) (hn : bs.length ≤ 9223372036854775807) :
    CS Try.prog 74 [.pointer (some ⟨r, 0, none⟩), .func (.func 75) #[] #[.pointer (some ⟨rm, 0, none⟩)]] ((r, rdRowOf v f) :: M) fun v' L' => v' = .int .i64 (tk (0 : Int) ((cAt bs most).1 : Int) (cAt bs most).2 (bs, f)).1 ∧ RDR T M r (tk (0 : Int) ((cAt bs most).1 : Int) (cAt bs most).2 (bs, f)).2 L' := by
  have hkl : (cAt bs most).2 ≤ bs.length := (cAt_le bs most).2.2
  have hvM := (hv.mono hT).cons (x := (r, rdRowOf v f))
  refine CS.mk (fn := Try.f74) rfl rfl rfl rfl ?_
  repeat refine LS.seq ?_
  refine LS.region rfl ?_
  refine OS.pure rfl (fun _ => rfl) rfl ?_
  refine OS.nil ?_
  repeat refine LS.seq ?_
  refine LS.region rfl ?_
  refine OS.pure rfl (fun _ => rfl) rfl ?_
  refine OS.nil ?_
  repeat refine LS.seq ?_
  refine LS.region rfl ?_
  refine OS.pure rfl (fun _ => rfl) rfl ?_
  refine OS.call noGo rfl (fun _ => rfl) ((OK_ct).mono ?_)
  rintro v' L' ⟨rfl, rfl⟩
  cases f with
  | true =>
    refine ⟨_, rfl, ?_⟩
    refine OS.pure rfl (fun _ => rfl) rfl ?_
    refine OS.nil ?_
    refine LS.cond rfl (fun hc => ?_) (fun hc => by cases hc)
    repeat refine LS.seq ?_
    refine LS.region rfl ?_
    refine OS.pure rfl (fun _ => rfl) rfl ?_
    refine OS.pure rfl (fun _ => rfl) rfl ?_
    refine OS.nil ?_
    refine LS.ret ⟨_, fun _ _ => rfl, ?_⟩
    exact ⟨rfl, v, rfl, hv⟩
  | false =>
    refine ⟨_, rfl, ?_⟩
    refine OS.pure rfl (fun _ => rfl) rfl ?_
    refine OS.nil ?_
    refine LS.cond rfl (fun hc => by cases hc) (fun hc => ?_)
    refine LS.skip ?_
    repeat refine LS.seq ?_
    refine LS.region rfl ?_
    refine OS.pure rfl (fun _ => rfl) rfl ?_
    refine OS.pure rfl (fun _ => rfl) rfl ?_
    refine OS.pure rfl (fun _ => rfl) rfl ?_
    refine OS.pure rfl (fun _ => rfl) rfl ?_
    refine OS.pure rfl (fun _ => rfl) rfl ?_
    refine OS.read rfl (e_load 0 rfl rfl rfl rfl rfl) rfl ?_
    refine OS.call noGo rfl (fun _ => rfl) ((Count1_ct h0 h1 (List.mem_cons_of_mem _ hm) hvM hn).mono ?_)
    rintro v' L' ⟨rfl, rfl⟩
    refine ⟨_, rfl, ?_⟩
    refine OS.pure rfl (fun _ => rfl) rfl ?_
    refine OS.pure rfl (fun _ => rfl) rfl ?_
    refine OS.pure rfl (fun _ => rfl) rfl ?_
    refine OS.pure rfl (fun _ => rfl) rfl ?_
    refine OS.pure rfl (fun _ => rfl) rfl ?_
    refine OS.nil ?_
    by_cases hz : (cAt bs most).2 = 0
    · have hb1 : ieqB (((cAt bs most).2 : Nat) : Int) 0 = true := by rw [ieqB_eq]; simp; omega
      repeat refine LS.seq ?_
      refine LS.region rfl ?_
      refine OS.pure rfl (fun _ => rfl) rfl ?_
      refine OS.pure rfl (e_is (fun _ => rfl) (congrArg Value.bool hb1)) rfl ?_
      refine OS.nil ?_
      refine LS.cond rfl (fun hc => ?_) (fun hc => by cases hc)
      repeat refine LS.seq ?_
      refine LS.region rfl ?_
      refine OS.pure rfl (fun _ => rfl) rfl ?_
      refine OS.pure rfl (fun _ => rfl) rfl ?_
      refine OS.pure rfl (fun _ => rfl) rfl ?_
      refine OS.call noGo rfl (fun _ => rfl) ((fail_ct).mono ?_)
      rintro v' L' rfl
      refine ⟨_, rfl, ?_⟩
      refine OS.nil ?_
      repeat refine LS.seq ?_
      refine LS.region rfl ?_
      refine OS.pure rfl (fun _ => rfl) rfl ?_
      refine OS.pure rfl (fun _ => rfl) rfl ?_
      refine OS.nil ?_
      refine LS.ret ⟨_, fun _ _ => rfl, ?_⟩
      rw [hz, tk_none]
      exact ⟨rfl, _, rfl, .inl ⟨rfl, rfl⟩⟩
    · have hb1 : ieqB (((cAt bs most).2 : Nat) : Int) 0 = false := by rw [ieqB_eq]; simp; omega
      repeat refine LS.seq ?_
      refine LS.region rfl ?_
      refine OS.pure rfl (fun _ => rfl) rfl ?_
      refine OS.pure rfl (e_is (fun _ => rfl) (congrArg Value.bool hb1)) rfl ?_
      refine OS.nil ?_
      refine LS.cond rfl (fun hc => by cases hc) (fun hc => ?_)
      refine LS.skip ?_
      repeat refine LS.seq ?_
      refine LS.region rfl ?_
      refine OS.pure rfl (fun _ => rfl) rfl ?_
      refine OS.pure rfl (fun _ => rfl) rfl ?_
      refine OS.pure rfl (fun _ => rfl) rfl ?_
      refine OS.pure rfl (fun _ => rfl) rfl ?_
      refine OS.call noGo rfl (fun _ => rfl) ((pass_ct (k := (cAt bs most).2) hT hv hkl).mono ?_)
      rintro v' L' hr
      refine ⟨_, rfl, ?_⟩
      refine OS.nil ?_
      repeat refine LS.seq ?_
      refine LS.region rfl ?_
      refine OS.pure rfl (fun _ => rfl) rfl ?_
      refine OS.pure rfl (fun _ => rfl) rfl ?_
      refine OS.nil ?_
      refine LS.ret ⟨_, fun _ _ => rfl, ?_⟩
      rw [tk_some hz]
      exact ⟨rfl, hr⟩

theorem takeStr_ct {M : RL} {r : Nat} {bs : List UInt8} {f : Bool} {v : Value} {rm : Nat} {most : Int} (h0 : -9223372036854775808 ≤ most) (h1 : most ≤ 9223372036854775807) (hm : (rm, .cells 3 [.int .i64 most]) ∈ M) {T : RL} (hT : ∀ p, p ∈ T → p ∈ M) (hv : OV T v bs) (hn : bs.length ≤ 9223372036854775807) :
    CS Try.prog 77 [.pointer (some ⟨r, 0, none⟩), .func (.func 78) #[] #[.pointer (some ⟨rm, 0, none⟩)]] ((r, rdRowOf v f) :: M) fun v' L' => v' = txt (tk ([] : List UInt8) (sAt bs most).1 (sAt bs most).2 (bs, f)).1 ∧ RDR T M r (tk ([] : List UInt8) (sAt bs most).1 (sAt bs most).2 (bs, f)).2 L' := by
  have hkl : (sAt bs most).2 ≤ bs.length := sAt_len bs most
  have hvM := (hv.mono hT).cons (x := (r, rdRowOf v f))
  refine CS.mk (fn := Try.f77) rfl rfl rfl rfl ?_
  repeat refine LS.seq ?_
  refine LS.region rfl ?_
  refine OS.pure rfl (fun _ => rfl) rfl ?_
  refine OS.nil ?_
  repeat refine LS.seq ?_
  refine LS.region rfl ?_
  refine OS.pure rfl (fun _ => rfl) rfl ?_
  refine OS.nil ?_
  repeat refine LS.seq ?_
  refine LS.region rfl ?_
  refine OS.pure rfl (fun _ => rfl) rfl ?_
  refine OS.call noGo rfl (fun _ => rfl) ((OK_ct).mono ?_)
  rintro v' L' ⟨rfl, rfl⟩
  cases f with
  | true =>
    refine ⟨_, rfl, ?_⟩
    refine OS.pure rfl (fun _ => rfl) rfl ?_
    refine OS.nil ?_
    refine LS.cond rfl (fun hc => ?_) (fun hc => by cases hc)
    repeat refine LS.seq ?_
    refine LS.region rfl ?_
    refine OS.pure rfl (fun _ => rfl) rfl ?_
    refine OS.pure rfl (fun _ => rfl) rfl ?_
    refine OS.nil ?_
    refine LS.ret ⟨_, fun _ _ => rfl, ?_⟩
    exact ⟨rfl, v, rfl, hv⟩
  | false =>
    refine ⟨_, rfl, ?_⟩
    refine OS.pure rfl (fun _ => rfl) rfl ?_
    refine OS.nil ?_
    refine LS.cond rfl (fun hc => by cases hc) (fun hc => ?_)
    refine LS.skip ?_
    repeat refine LS.seq ?_
    refine LS.region rfl ?_
    refine OS.pure rfl (fun _ => rfl) rfl ?_
    refine OS.pure rfl (fun _ => rfl) rfl ?_
    refine OS.pure rfl (fun _ => rfl) rfl ?_
    refine OS.pure rfl (fun _ => rfl) rfl ?_
    refine OS.pure rfl (fun _ => rfl) rfl ?_
    refine OS.read rfl (e_load 0 rfl rfl rfl rfl rfl) rfl ?_
    refine OS.call noGo rfl (fun _ => rfl) ((Str1_ct h0 h1 (List.mem_cons_of_mem _ hm) hvM hn).mono ?_)
    rintro v' L' ⟨rfl, rfl⟩
    refine ⟨_, rfl, ?_⟩
    refine OS.pure rfl (fun _ => rfl) rfl ?_
    refine OS.pure rfl (fun _ => rfl) rfl ?_
    refine OS.pure rfl (fun _ => rfl) rfl ?_
    refine OS.pure rfl (fun _ => rfl) rfl ?_
    refine OS.pure rfl (fun _ => rfl) rfl ?_
    refine OS.nil ?_
    by_cases hz : (sAt bs most).2 = 0
    · have hb1 : ieqB (((sAt bs most).2 : Nat) : Int) 0 = true := by rw [ieqB_eq]; simp; omega
      repeat refine LS.seq ?_
      refine LS.region rfl ?_
      refine OS.pure rfl (fun _ => rfl) rfl ?_
      refine OS.pure rfl (e_is (fun _ => rfl) (congrArg Value.bool hb1)) rfl ?_
      refine OS.nil ?_
      refine LS.cond rfl (fun hc => ?_) (fun hc => by cases hc)
      repeat refine LS.seq ?_
      refine LS.region rfl ?_
      refine OS.pure rfl (fun _ => rfl) rfl ?_
      refine OS.pure rfl (fun _ => rfl) rfl ?_
      refine OS.pure rfl (fun _ => rfl) rfl ?_
      refine OS.call noGo rfl (fun _ => rfl) ((fail_ct).mono ?_)
      rintro v' L' rfl
      refine ⟨_, rfl, ?_⟩
      refine OS.nil ?_
      repeat refine LS.seq ?_
      refine LS.region rfl ?_
      refine OS.pure rfl (fun _ => rfl) rfl ?_
      refine OS.pure rfl (fun _ => rfl) rfl ?_
      refine OS.nil ?_
      refine LS.ret ⟨_, fun _ _ => rfl, ?_⟩
      rw [hz, tk_none]
      exact ⟨rfl, _, rfl, .inl ⟨rfl, rfl⟩⟩
    · have hb1 : ieqB (((sAt bs most).2 : Nat) : Int) 0 = false := by rw [ieqB_eq]; simp; omega
      repeat refine LS.seq ?_
      refine LS.region rfl ?_
      refine OS.pure rfl (fun _ => rfl) rfl ?_
      refine OS.pure rfl (e_is (fun _ => rfl) (congrArg Value.bool hb1)) rfl ?_
      refine OS.nil ?_
      refine LS.cond rfl (fun hc => by cases hc) (fun hc => ?_)
      refine LS.skip ?_
      repeat refine LS.seq ?_
      refine LS.region rfl ?_
      refine OS.pure rfl (fun _ => rfl) rfl ?_
      refine OS.pure rfl (fun _ => rfl) rfl ?_
      refine OS.pure rfl (fun _ => rfl) rfl ?_
      refine OS.pure rfl (fun _ => rfl) rfl ?_
      refine OS.call noGo rfl (fun _ => rfl) ((pass_ct (k := (sAt bs most).2) hT hv hkl).mono ?_)
      rintro v' L' hr
      refine ⟨_, rfl, ?_⟩
      refine OS.nil ?_
      repeat refine LS.seq ?_
      refine LS.region rfl ?_
      refine OS.pure rfl (fun _ => rfl) rfl ?_
      refine OS.pure rfl (fun _ => rfl) rfl ?_
      refine OS.nil ?_
      refine LS.ret ⟨_, fun _ _ => rfl, ?_⟩
      rw [tk_some hz]
      exact ⟨rfl, hr⟩

theorem RNum_ct {M : RL} {r : Nat} {bs : List UInt8} {f : Bool} {v : Value} {T : RL} (hT : ∀ p, p ∈ T → p ∈ M) (hv : OV T v bs) (hn : bs.length ≤ 9223372036854775807) :
    CS Try.prog 53 [.pointer (some ⟨r, 0, none⟩)] ((r, rdRowOf v f) :: M) fun v' L' => v' = .int .i64 (tk (0 : Int) (unz (gat bs).1) (gat bs).2 (bs, f)).1 ∧ RDR T M r (tk (0 : Int) (unz (gat bs).1) (gat bs).2 (bs, f)).2 L' := by
  refine CS.mk (fn := Try.f53) rfl rfl rfl rfl ?_
  repeat refine LS.seq ?_
  refine LS.region rfl ?_
  refine OS.pure rfl (fun _ => rfl) rfl ?_
  refine OS.nil ?_
  repeat refine LS.seq ?_
  refine LS.region rfl ?_
  refine OS.pure rfl (fun _ => rfl) rfl ?_
  refine OS.call noGo rfl (fun _ => rfl) ((takeNum_ct hT hv hn).mono ?_)
  rintro v' L' ⟨rfl, hr⟩
  refine ⟨_, rfl, ?_⟩
  refine OS.pure rfl (fun _ => rfl) rfl ?_
  refine OS.nil ?_
  refine LS.ret ⟨_, fun _ _ => rfl, ?_⟩
  exact ⟨rfl, hr⟩

theorem RFlag_ct {M : RL} {r : Nat} {bs : List UInt8} {f : Bool} {v : Value} {T : RL} (hT : ∀ p, p ∈ T → p ∈ M) (hv : OV T v bs) (hn : bs.length ≤ 9223372036854775807) :
    CS Try.prog 56 [.pointer (some ⟨r, 0, none⟩)] ((r, rdRowOf v f) :: M) fun v' L' => v' = .bool (tk false (fAt bs).1 (fAt bs).2 (bs, f)).1 ∧ RDR T M r (tk false (fAt bs).1 (fAt bs).2 (bs, f)).2 L' := by
  refine CS.mk (fn := Try.f56) rfl rfl rfl rfl ?_
  repeat refine LS.seq ?_
  refine LS.region rfl ?_
  refine OS.pure rfl (fun _ => rfl) rfl ?_
  refine OS.nil ?_
  repeat refine LS.seq ?_
  refine LS.region rfl ?_
  refine OS.pure rfl (fun _ => rfl) rfl ?_
  refine OS.call noGo rfl (fun _ => rfl) ((takeFlag_ct hT hv hn).mono ?_)
  rintro v' L' ⟨rfl, hr⟩
  refine ⟨_, rfl, ?_⟩
  refine OS.pure rfl (fun _ => rfl) rfl ?_
  refine OS.nil ?_
  refine LS.ret ⟨_, fun _ _ => rfl, ?_⟩
  exact ⟨rfl, hr⟩

theorem RCount_ct {M : RL} {r : Nat} {bs : List UInt8} {f : Bool} {v : Value} {most : Int} (h0 : -9223372036854775808 ≤ most) (h1 : most ≤ 9223372036854775807) {T : RL} (hT : ∀ p, p ∈ T → p ∈ M) (hv : OV T v bs) (hn : bs.length ≤ 9223372036854775807) :
    CS Try.prog 54 [.pointer (some ⟨r, 0, none⟩), .int .i64 most] ((r, rdRowOf v f) :: M) fun v' L' => v' = .int .i64 (tk (0 : Int) ((cAt bs most).1 : Int) (cAt bs most).2 (bs, f)).1 ∧ RDR T M r (tk (0 : Int) ((cAt bs most).1 : Int) (cAt bs most).2 (bs, f)).2 L' := by
  refine CS.mk (fn := Try.f54) rfl rfl rfl rfl ?_
  repeat refine LS.seq ?_
  refine LS.region rfl ?_
  refine OS.fresh rfl (e_new (fun _ => rfl) rfl) (fun _ => rfl) (fun rm => ?_)
  refine OS.pure rfl (fun _ => rfl) rfl ?_
  refine OS.nil ?_
  repeat refine LS.seq ?_
  refine LS.region rfl ?_
  refine OS.pure rfl (fun _ => rfl) rfl ?_
  refine OS.pure rfl (fun _ => rfl) rfl ?_
  refine OS.sub (Sub.pulls [1] rfl) ?_
  refine OS.call noGo rfl (fun _ => rfl) ((takeCount_ct (rm := rm) h0 h1 (List.mem_cons_self ..) (fun p hp => List.mem_cons_of_mem _ (hT p hp)) hv hn).mono ?_)
  rintro v' L' ⟨rfl, v2, rfl, hr⟩
  refine ⟨_, rfl, ?_⟩
  refine OS.pure rfl (fun _ => rfl) rfl ?_
  refine OS.sub (Sub.drop 1 rfl) ?_
  refine OS.nil ?_
  refine LS.ret ⟨_, fun _ _ => rfl, ?_⟩
  exact ⟨rfl, v2, rfl, hr⟩

theorem RStr_ct {M : RL} {r : Nat} {bs : List UInt8} {f : Bool} {v : Value} {most : Int} (h0 : -9223372036854775808 ≤ most) (h1 : most ≤ 9223372036854775807) {T : RL} (hT : ∀ p, p ∈ T → p ∈ M) (hv : OV T v bs) (hn : bs.length ≤ 9223372036854775807) :
    CS Try.prog 55 [.pointer (some ⟨r, 0, none⟩), .int .i64 most] ((r, rdRowOf v f) :: M) fun v' L' => v' = txt (tk ([] : List UInt8) (sAt bs most).1 (sAt bs most).2 (bs, f)).1 ∧ RDR T M r (tk ([] : List UInt8) (sAt bs most).1 (sAt bs most).2 (bs, f)).2 L' := by
  refine CS.mk (fn := Try.f55) rfl rfl rfl rfl ?_
  repeat refine LS.seq ?_
  refine LS.region rfl ?_
  refine OS.fresh rfl (e_new (fun _ => rfl) rfl) (fun _ => rfl) (fun rm => ?_)
  refine OS.pure rfl (fun _ => rfl) rfl ?_
  refine OS.nil ?_
  repeat refine LS.seq ?_
  refine LS.region rfl ?_
  refine OS.pure rfl (fun _ => rfl) rfl ?_
  refine OS.pure rfl (fun _ => rfl) rfl ?_
  refine OS.sub (Sub.pulls [1] rfl) ?_
  refine OS.call noGo rfl (fun _ => rfl) ((takeStr_ct (rm := rm) h0 h1 (List.mem_cons_self ..) (fun p hp => List.mem_cons_of_mem _ (hT p hp)) hv hn).mono ?_)
  rintro v' L' ⟨rfl, v2, rfl, hr⟩
  refine ⟨_, rfl, ?_⟩
  refine OS.pure rfl (fun _ => rfl) rfl ?_
  refine OS.sub (Sub.drop 1 rfl) ?_
  refine OS.nil ?_
  refine LS.ret ⟨_, fun _ _ => rfl, ?_⟩
  exact ⟨rfl, v2, rfl, hr⟩

theorem ask_ct {M : RL} {r : Nat} {bs : List UInt8} {f : Bool} {v : Value} (t : Th) (ht : t.ok) {T : RL} (hT : ∀ p, p ∈ T → p ∈ M) (hv : OV T v bs) (hn : bs.length ≤ 9223372036854775807) :
    CS Try.prog 14 [t.val, .pointer (some ⟨r, 0, none⟩)] ((r, rdRowOf v f) :: M) fun v' L' => v' = toldV (askS t (bs, f)).1 ∧ RDR T M r (askS t (bs, f)).2 L' := by
  refine CS.less (R := fun v' L' => v' = toldV (askS t (bs, f)).1 ∧ ∃ r4 c4 r0 c0, RDR T ((r4, .cells 36 c4) :: (r0, .cells 28 c0) :: M) r (askS t (bs, f)).2 L') ?_ ?_
  rotate_left
  · rintro v' L' ⟨rfl, r4, c4, r0, c0, v2, rfl, hr⟩
    exact ⟨_, Sub.two, rfl, v2, rfl, hr⟩
  obtain ⟨k, m, s⟩ := t
  obtain ⟨h0, h1, _⟩ := ht
  simp only at h0 h1
  simp only [Th.val, askS]
  have hne : ∀ j : Nat, j < 256 → k ≠ UInt8.ofNat j → ieqB (k.toNat : Int) j = false := fun j hj hne => by
    rw [ieqB_eq]
    have : k.toNat ≠ j := fun hh => hne (by rw [← hh]; simp)
    simpa using (show ¬ ((k.toNat : Int) = j) by omega)
  refine CS.mk (fn := Try.f14) rfl rfl rfl rfl ?_
  repeat refine LS.seq ?_
  refine LS.region rfl ?_
  refine OS.fresh rfl (e_new (fun _ => rfl) rfl) (fun _ => rfl) (fun r0 => ?_)
  refine OS.fresh rfl (e_new (fun _ => rfl) rfl) (fun _ => rfl) (fun r4 => ?_)
  refine OS.nil ?_
  repeat refine LS.seq ?_
  refine LS.region rfl ?_
  refine OS.pure rfl (fun _ => rfl) rfl ?_
  refine OS.read rfl (e_load 1 rfl rfl rfl rfl rfl) rfl ?_
  refine OS.nil ?_
  repeat refine LS.seq ?_
  refine LS.block ?_
  by_cases hk0 : k = 0
  · subst hk0
    repeat refine LS.seq ?_
    refine LS.region rfl ?_
    refine OS.pure rfl (fun _ => rfl) rfl ?_
    refine OS.pure rfl (fun _ => rfl) rfl ?_
    refine OS.nil ?_
    refine LS.cond rfl (fun h => ?_) (fun h => by cases h)
    repeat refine LS.seq ?_
    refine LS.region rfl ?_
    refine OS.pure rfl (fun _ => rfl) rfl ?_
    refine OS.sub (Sub.pulls [2] rfl) ?_
    refine OS.call noGo rfl (fun _ => rfl) ((RNum_ct (fun p hp => List.mem_cons_of_mem _ (List.mem_cons_of_mem _ (hT p hp))) hv hn).mono ?_)
    rintro v' L' ⟨rfl, v2, rfl, hr⟩
    refine ⟨_, rfl, ?_⟩
    refine OS.pure rfl (fun _ => rfl) rfl ?_
    refine OS.write rfl (e_store 1 rfl rfl rfl rfl rfl rfl rfl rfl) rfl ?_
    refine OS.nil ?_
    refine LS.ret ⟨_, res_cell 1 rfl rfl rfl rfl, ?_⟩
    rw [if_pos rfl]
    exact ⟨rfl, r4, _, r0, _, v2, rfl, hr⟩
  repeat refine LS.seq ?_
  refine LS.region rfl ?_
  refine OS.pure rfl (e_is (fun _ => rfl) (congrArg Value.bool (hne 0 (by omega) hk0))) rfl ?_
  refine OS.pure rfl (fun _ => rfl) rfl ?_
  refine OS.nil ?_
  refine LS.cond rfl (fun h => by cases h) (fun h => ?_)
  rw [if_neg hk0]
  by_cases hk1 : k = 1
  · subst hk1
    repeat refine LS.seq ?_
    refine LS.region rfl ?_
    refine OS.pure rfl (fun _ => rfl) rfl ?_
    refine OS.pure rfl (fun _ => rfl) rfl ?_
    refine OS.nil ?_
    refine LS.cond rfl (fun h => ?_) (fun h => by cases h)
    repeat refine LS.seq ?_
    refine LS.region rfl ?_
    refine OS.pure rfl (fun _ => rfl) rfl ?_
    refine OS.pure rfl (fun _ => rfl) rfl ?_
    refine OS.read rfl (e_load 1 rfl rfl rfl rfl rfl) rfl ?_
    refine OS.sub (Sub.pulls [2] rfl) ?_
    refine OS.call noGo rfl (fun _ => rfl) ((RCount_ct (most := m) h0 h1 (fun p hp => List.mem_cons_of_mem _ (List.mem_cons_of_mem _ (hT p hp))) hv hn).mono ?_)
    rintro v' L' ⟨rfl, v2, rfl, hr⟩
    refine ⟨_, rfl, ?_⟩
    refine OS.pure rfl (fun _ => rfl) rfl ?_
    refine OS.write rfl (e_store 1 rfl rfl rfl rfl rfl rfl rfl rfl) rfl ?_
    refine OS.nil ?_
    refine LS.ret ⟨_, res_cell 1 rfl rfl rfl rfl, ?_⟩
    rw [if_pos rfl]
    exact ⟨rfl, r4, _, r0, _, v2, rfl, hr⟩
  repeat refine LS.seq ?_
  refine LS.region rfl ?_
  refine OS.pure rfl (e_is (fun _ => rfl) (congrArg Value.bool (hne 1 (by omega) hk1))) rfl ?_
  refine OS.pure rfl (fun _ => rfl) rfl ?_
  refine OS.nil ?_
  refine LS.cond rfl (fun h => by cases h) (fun h => ?_)
  rw [if_neg hk1]
  by_cases hk2 : k = 2
  · subst hk2
    repeat refine LS.seq ?_
    refine LS.region rfl ?_
    refine OS.pure rfl (fun _ => rfl) rfl ?_
    refine OS.pure rfl (fun _ => rfl) rfl ?_
    refine OS.nil ?_
    refine LS.cond rfl (fun h => ?_) (fun h => by cases h)
    repeat refine LS.seq ?_
    refine LS.region rfl ?_
    refine OS.pure rfl (fun _ => rfl) rfl ?_
    refine OS.pure rfl (fun _ => rfl) rfl ?_
    refine OS.read rfl (e_load 1 rfl rfl rfl rfl rfl) rfl ?_
    refine OS.sub (Sub.pulls [2] rfl) ?_
    refine OS.call noGo rfl (fun _ => rfl) ((RStr_ct (most := m) h0 h1 (fun p hp => List.mem_cons_of_mem _ (List.mem_cons_of_mem _ (hT p hp))) hv hn).mono ?_)
    rintro v' L' ⟨rfl, v2, rfl, hr⟩
    refine ⟨_, rfl, ?_⟩
    refine OS.pure rfl (fun _ => rfl) rfl ?_
    refine OS.write rfl (e_store 1 rfl rfl rfl rfl rfl rfl rfl rfl) rfl ?_
    refine OS.nil ?_
    refine LS.ret ⟨_, res_cell 1 rfl rfl rfl rfl, ?_⟩
    rw [if_pos rfl]
    exact ⟨rfl, r4, _, r0, _, v2, rfl, hr⟩
  repeat refine LS.seq ?_
  refine LS.region rfl ?_
  refine OS.pure rfl (e_is (fun _ => rfl) (congrArg Value.bool (hne 2 (by omega) hk2))) rfl ?_
  refine OS.pure rfl (fun _ => rfl) rfl ?_
  refine OS.nil ?_
  refine LS.cond rfl (fun h => by cases h) (fun h => ?_)
  rw [if_neg hk2]
  refine LS.skip ?_
  repeat refine LS.seq ?_
  refine LS.region rfl ?_
  refine OS.pure rfl (fun _ => rfl) rfl ?_
  refine OS.sub (Sub.pulls [2] rfl) ?_
  refine OS.call noGo rfl (fun _ => rfl) ((RFlag_ct (fun p hp => List.mem_cons_of_mem _ (List.mem_cons_of_mem _ (hT p hp))) hv hn).mono ?_)
  rintro v' L' ⟨rfl, v2, rfl, hr⟩
  refine ⟨_, rfl, ?_⟩
  refine OS.call noGo rfl (fun _ => rfl) ((one_ct _).mono ?_)
  rintro v' L' ⟨rfl, rfl⟩
  refine ⟨_, rfl, ?_⟩
  refine OS.pure rfl (fun _ => rfl) rfl ?_
  refine OS.write rfl (e_store 1 rfl rfl rfl rfl rfl rfl rfl rfl) rfl ?_
  refine OS.nil ?_
  refine LS.ret ⟨_, res_cell 1 rfl rfl rfl rfl, ?_⟩
  exact ⟨rfl, r4, _, r0, _, v2, rfl, hr⟩

theorem rOK_ct {M : RL} {r : Nat} {v : Value} {f : Bool} : CS Try.prog 17 [.pointer (some ⟨r, 0, none⟩)] ((r, rrRowOf v f) :: M) fun v' L' => v' = .bool (!f) ∧ L' = (r, rrRowOf v f) :: M := by
  refine CS.mk (fn := Try.f17) rfl rfl rfl rfl ?_
  repeat refine LS.seq ?_
  refine LS.region rfl ?_
  refine OS.pure rfl (fun _ => rfl) rfl ?_
  refine OS.nil ?_
  repeat refine LS.seq ?_
  refine LS.region rfl ?_
  refine OS.pure rfl (fun _ => rfl) rfl ?_
  refine OS.pure rfl (fun _ => rfl) rfl ?_
  refine OS.pure rfl (fun _ => rfl) rfl ?_
  refine OS.read rfl (e_load 0 rfl rfl rfl rfl rfl) rfl ?_
  refine OS.pure rfl (fun _ => rfl) rfl ?_
  refine OS.pure rfl (fun _ => rfl) rfl ?_
  refine OS.nil ?_
  refine LS.ret ⟨_, fun _ _ => rfl, ?_⟩
  exact ⟨rfl, rfl⟩
theorem rLeft_ct {M : RL} {r : Nat} {v : Value} {f : Bool} {bs : List UInt8} (hv : OV M v bs) : CS Try.prog 19 [.pointer (some ⟨r, 0, none⟩)] ((r, rrRowOf v f) :: M) fun v' L' => v' = .int .i64 (bs.length : Nat) ∧ L' = (r, rrRowOf v f) :: M := by
  refine CS.mk (fn := Try.f19) rfl rfl rfl rfl ?_
  repeat refine LS.seq ?_
  refine LS.region rfl ?_
  refine OS.pure rfl (fun _ => rfl) rfl ?_
  refine OS.nil ?_
  repeat refine LS.seq ?_
  refine LS.region rfl ?_
  refine OS.pure rfl (fun _ => rfl) rfl ?_
  refine OS.pure rfl (fun _ => rfl) rfl ?_
  refine OS.pure rfl (fun _ => rfl) rfl ?_
  refine OS.read rfl (e_load 0 rfl rfl rfl rfl rfl) rfl ?_
  refine OS.pure rfl (e_len hv.sv rfl rfl rfl rfl rfl) rfl ?_
  refine OS.pure rfl (fun _ => rfl) rfl ?_
  refine OS.nil ?_
  refine LS.ret ⟨_, fun _ _ => rfl, ?_⟩
  exact ⟨rfl, rfl⟩
theorem rDone_ct {M : RL} {r : Nat} {v : Value} {f : Bool} {bs : List UInt8} (hv : OV M v bs) : CS Try.prog 21 [.pointer (some ⟨r, 0, none⟩)] ((r, rrRowOf v f) :: M) fun v' L' => v' = .bool (!f && bs.isEmpty) ∧ L' = (r, rrRowOf v f) :: M := by
  refine CS.mk (fn := Try.f21) rfl rfl rfl rfl ?_
  repeat refine LS.seq ?_
  refine LS.region rfl ?_
  refine OS.pure rfl (fun _ => rfl) rfl ?_
  refine OS.nil ?_
  cases f
  · repeat refine LS.seq ?_
    refine LS.region rfl ?_
    refine OS.pure rfl (fun _ => rfl) rfl ?_
    refine OS.pure rfl (fun _ => rfl) rfl ?_
    refine OS.pure rfl (fun _ => rfl) rfl ?_
    refine OS.read rfl (e_load 0 rfl rfl rfl rfl rfl) rfl ?_
    refine OS.pure rfl (fun _ => rfl) rfl ?_
    refine OS.pure rfl (fun _ => rfl) rfl ?_
    refine OS.pure rfl (fun _ => rfl) rfl ?_
    refine OS.pure rfl (fun _ => rfl) rfl ?_
    refine OS.pure rfl (fun _ => rfl) rfl ?_
    refine OS.read rfl (e_load 0 rfl rfl rfl rfl rfl) rfl ?_
    refine OS.pure rfl (e_len hv.sv rfl rfl rfl rfl rfl) rfl ?_
    refine OS.pure rfl (fun _ => rfl) rfl ?_
    refine OS.pure rfl (fun _ => rfl) rfl ?_
    refine OS.pure rfl (fun _ => rfl) rfl ?_
    refine OS.nil ?_
    refine LS.ret ⟨_, fun _ _ => rfl, ?_⟩
    refine ⟨?_, rfl⟩
    cases bs <;> simp [tupleB, ieqB_eq]
    omega
  · repeat refine LS.seq ?_
    refine LS.region rfl ?_
    refine OS.pure rfl (fun _ => rfl) rfl ?_
    refine OS.pure rfl (fun _ => rfl) rfl ?_
    refine OS.pure rfl (fun _ => rfl) rfl ?_
    refine OS.read rfl (e_load 0 rfl rfl rfl rfl rfl) rfl ?_
    refine OS.pure rfl (fun _ => rfl) rfl ?_
    refine OS.pure rfl (fun _ => rfl) rfl ?_
    refine OS.skip rfl rfl ?_
    refine OS.skip rfl rfl ?_
    refine OS.skip rfl rfl ?_
    refine OS.skip rfl rfl ?_
    refine OS.skip rfl rfl ?_
    refine OS.skip rfl rfl ?_
    refine OS.pure rfl (fun _ => rfl) rfl ?_
    refine OS.pure rfl (fun _ => rfl) rfl ?_
    refine OS.nil ?_
    refine LS.ret ⟨_, fun _ _ => rfl, ?_⟩
    exact ⟨rfl, rfl⟩
theorem rfails_ct {M : RL} {r : Nat} {v : Value} {f : Bool} : CS Try.prog 83 [.pointer (some ⟨r, 0, none⟩)] ((r, rrRowOf v f) :: M) fun v' L' => L' = (r, rrRowOf (.slice none 0 0) true) :: M := by
  refine CS.mk (fn := Try.f83) rfl rfl rfl rfl ?_
  repeat refine LS.seq ?_
  refine LS.region rfl ?_
  refine OS.pure rfl (fun _ => rfl) rfl ?_
  refine OS.pure rfl (fun _ => rfl) rfl ?_
  refine OS.pure rfl (fun _ => rfl) rfl ?_
  refine OS.write rfl (e_store 0 rfl rfl rfl rfl rfl rfl rfl rfl) rfl ?_
  refine OS.nil ?_
  repeat refine LS.seq ?_
  refine LS.region rfl ?_
  refine OS.pure rfl (fun _ => rfl) rfl ?_
  refine OS.pure rfl (fun _ => rfl) rfl ?_
  refine OS.pure rfl (fun _ => rfl) rfl ?_
  refine OS.write rfl (e_store 0 rfl rfl rfl rfl rfl rfl rfl rfl) rfl ?_
  refine OS.nil ?_
  exact ⟨_, fun _ _ => rfl, rfl⟩

/-- The number whose groups these are. -/
def valB : List UInt8 → Nat
  | [] => 0
  | c :: r => c.toNat % 128 + 128 * valB r
theorem valB_grp (u : Nat) : valB (grp u) = u := by
  induction u using Nat.strongRecOn with
  | _ u ih =>
    by_cases h : u < 128
    · rw [grp_lt h]; simp only [valB]; rw [toNat_of (by omega)]; omega
    · rw [grp_ge (by omega)]; simp only [valB]; rw [toNat_of (by omega), ih (u / 128) (by omega)]; omega

theorem off_ct {M : RL} {r : Nat} {v : Value} {f : Bool} {bs : List UInt8} (hv : OV M v bs) (hn : bs.length ≤ 9223372036854775807) :
    CS Try.prog 82 [.pointer (some ⟨r, 0, none⟩)] ((r, rrRowOf v f) :: M) fun v' L' => v' = .tuple #[.int .u64 ((gat bs).1 : Nat), .int .i64 ((gat bs).2 : Nat)] ∧ L' = (r, rrRowOf v f) :: M := by
  refine CS.mk (fn := Try.f82) rfl rfl rfl rfl ?_
  repeat refine LS.seq ?_
  refine LS.region rfl ?_
  refine OS.pure rfl (fun _ => rfl) rfl ?_
  refine OS.pure rfl (fun _ => rfl) rfl ?_
  refine OS.nil ?_
  repeat refine LS.seq ?_
  refine LS.region rfl ?_
  refine OS.pure rfl (fun _ => rfl) rfl ?_
  refine OS.nil ?_
  repeat refine LS.seq ?_
  refine LS.region rfl ?_
  refine OS.pure rfl (fun _ => rfl) rfl ?_
  refine OS.nil ?_
  repeat refine LS.seq ?_
  refine LS.block ?_
  -- no shorter one is there
  refine LS.loopJ [0, 5] (fun q a L => ∃ n, q = 11 - n ∧ 1 ≤ n ∧ n ≤ 11 ∧ n ≤ bs.length + 1 ∧ ((gat bs).2 = 0 ∨ n ≤ (gat bs).2) ∧ L = (r, rrRowOf v f) :: M ∧ a = [.pointer (some ⟨r, 0, none⟩), .chan none, .chan none, .chan none, .chan none, .int .i64 (n : Nat), .chan none, .chan none, .chan none, .chan none, .chan none, .chan none, .chan none, .chan none, .chan none, .chan none, .chan none, .chan none, .chan none, .chan none, .chan none, .chan none, .chan none, .chan none, .chan none, .chan none, .chan none, .chan none, .chan none, .chan none, .chan none, .chan none, .chan none, .chan none, .chan none, .chan none, .chan none, .chan none, .chan none, .chan none, .chan none, .chan none, .chan none, .chan none, .chan none, .chan none, .chan none, .chan none, .chan none, .chan none]) (n := 10) rfl ⟨1, rfl, by omega, by omega, by omega, by omega, rfl, rfl⟩ ?_
  rintro q a L ⟨n, rfl, hn1, hn2, hnb, hg, rfl, rfl⟩
  have hgl := gat_len bs
  have hgs := gat_small bs
  by_cases hin : n ≤ 10 ∧ n ≤ bs.length
  · have hb1 : ileB (n : Int) 10 = true := ileB_iff.2 (by omega)
    have hb2 : ileB (n : Int) (bs.length : Nat) = true := ileB_iff.2 (by omega)
    repeat refine LS.seq ?_
    refine LS.region rfl ?_
    refine OS.pure rfl (fun _ => rfl) rfl ?_
    refine OS.pure rfl (e_is (fun _ => rfl) (congrArg Value.bool hb1)) rfl ?_
    refine OS.pure rfl (fun _ => rfl) rfl ?_
    refine OS.pure rfl (fun _ => rfl) rfl ?_
    refine OS.pure rfl (fun _ => rfl) rfl ?_
    refine OS.pure rfl (fun _ => rfl) rfl ?_
    refine OS.pure rfl (fun _ => rfl) rfl ?_
    refine OS.read rfl (e_load 0 rfl rfl rfl rfl rfl) rfl ?_
    refine OS.pure rfl (e_len hv.sv rfl rfl rfl rfl rfl) rfl ?_
    refine OS.pure rfl (e_is (fun _ => rfl) (congrArg Value.bool hb2)) rfl ?_
    refine OS.pure rfl (fun _ => rfl) rfl ?_
    refine OS.nil ?_
    refine LS.cond rfl (fun hc => ?_) (fun hc => by cases hc)
    refine LS.skip ?_
    repeat refine LS.seq ?_
    refine LS.block ?_
    repeat refine LS.seq ?_
    refine LS.region rfl ?_
    refine OS.pure rfl (fun _ => rfl) rfl ?_
    refine OS.nil ?_
    repeat refine LS.seq ?_
    refine LS.region rfl ?_
    refine OS.pure rfl (fun _ => rfl) rfl ?_
    refine OS.pure rfl (fun _ => rfl) rfl ?_
    refine OS.nil ?_
    refine LS.mid [0, 4, 5] (fun a L => L = (r, rrRowOf v f) :: M ∧ a = [.pointer (some ⟨r, 0, none⟩), .chan none, .chan none, .chan none, .int .u64 (valB (bs.take n) % 18446744073709551616 : Nat), .int .i64 (n : Nat), .chan none, .chan none, .chan none, .chan none, .chan none, .chan none, .chan none, .chan none, .chan none, .chan none, .chan none, .chan none, .chan none, .chan none, .chan none, .chan none, .chan none, .chan none, .chan none, .chan none, .chan none, .chan none, .chan none, .chan none, .chan none, .chan none, .chan none, .chan none, .chan none, .chan none, .chan none, .chan none, .chan none, .chan none, .chan none, .chan none, .chan none, .chan none, .chan none, .chan none, .chan none, .chan none, .chan none, .chan none]) ?_ ?_
    · repeat refine LS.seq ?_
      refine LS.block ?_
      refine LS.loopJ [0, 4, 5, 6] (fun q a L => ∃ i, q = i ∧ i ≤ n ∧ L = (r, rrRowOf v f) :: M ∧ a = [.pointer (some ⟨r, 0, none⟩), .chan none, .chan none, .chan none, .int .u64 (valB ((bs.take n).drop i) % 18446744073709551616 : Nat), .int .i64 (n : Nat), .int .i64 (i : Nat), .chan none, .chan none, .chan none, .chan none, .chan none, .chan none, .chan none, .chan none, .chan none, .chan none, .chan none, .chan none, .chan none, .chan none, .chan none, .chan none, .chan none, .chan none, .chan none, .chan none, .chan none, .chan none, .chan none, .chan none, .chan none, .chan none, .chan none, .chan none, .chan none, .chan none, .chan none, .chan none, .chan none, .chan none, .chan none, .chan none, .chan none, .chan none, .chan none, .chan none, .chan none, .chan none, .chan none]) (n := n) rfl ⟨n, rfl, by omega, rfl, by rw [List.drop_eq_nil_of_le (by simp; omega)]; rfl⟩ ?_
      rintro q a L ⟨i, rfl, hi, rfl, rfl⟩
      by_cases h0 : 0 < q
      · have hb3 : (!ileB (q : Int) 0) = true := by rw [ileB_eq]; simp; omega
        have hget : bs[q - 1]? = some (bs[q - 1]'(by omega)) := List.getElem?_eq_getElem (by omega)
        have hgett : (bs.take n)[q - 1]? = some (bs[q - 1]'(by omega)) := by rw [List.getElem?_take, if_pos (by omega), hget]
        have hcb : (bs[q - 1]'(by omega)).toNat < 256 := (bs[q - 1]'(by omega)).toNat_lt
        have hd : (bs.take n).drop (q - 1) = (bs[q - 1]'(by omega)) :: (bs.take n).drop q := by
          have hlt : q - 1 < (bs.take n).length := by simp; omega
          rw [List.drop_eq_getElem_cons hlt]
          have : (bs.take n)[q - 1] = bs[q - 1]'(by omega) := by simp
          rw [this, show q - 1 + 1 = q by omega]
        generalize hx : valB ((bs.take n).drop q) = x at *
        generalize (bs[q - 1]'(by omega)) = b at *
        repeat refine LS.seq ?_
        refine LS.region rfl ?_
        refine OS.pure rfl (fun _ => rfl) rfl ?_
        refine OS.pure rfl (e_is (fun _ => rfl) (congrArg Value.bool hb3)) rfl ?_
        refine OS.nil ?_
        refine LS.cond rfl (fun hc => ?_) (fun hc => by cases hc)
        refine LS.skip ?_
        repeat refine LS.seq ?_
        refine LS.block ?_
        repeat refine LS.seq ?_
        refine LS.region rfl ?_
        refine OS.pure rfl (fun _ => rfl) rfl ?_
        refine OS.pure rfl (fun _ => rfl) rfl ?_
        refine OS.pure rfl (fun _ => rfl) rfl ?_
        refine OS.pure rfl (fun _ => rfl) rfl ?_
        refine OS.pure rfl (fun _ => rfl) rfl ?_
        refine OS.read rfl (e_load 0 rfl rfl rfl rfl rfl) rfl ?_
        refine OS.pure rfl (fun _ => rfl) rfl ?_
        refine OS.pure rfl (e_is (e_sub (m := (q : Nat)) (n := 1) rfl rfl rfl (in_i64 (by omega) (by omega))) (congrArg (Value.int .i64) (show ((q : Nat) : Int) - 1 = ((q - 1 : Nat) : Int) by omega))) rfl ?_
        refine OS.at1 (j := q - 1) hv.sv.cons (byteCells_get hget) rfl rfl rfl rfl rfl rfl (fun r0 o0 row0 cs0 m0 c0 g0 => ?_)
        refine ⟨_, rfl, ?_⟩
        refine OS.read rfl (e_loadm m0 c0 rfl rfl (part_one rfl g0)) rfl ?_
        refine OS.pure rfl (e_rem (n := 128) rfl rfl rfl (by decide)) rfl ?_
        refine OS.pure rfl (e_conv rfl rfl rfl rfl (in_u64 (by omega) (by omega))) rfl ?_
        have key : wrapB IntKind.u64 (wrapB IntKind.u64 (128 * ((x % 18446744073709551616 : Nat) : Int)) + ((b.toNat % 128 : Nat) : Int)) = ((valB ((bs.take n).drop (q - 1)) % 18446744073709551616 : Nat) : Int) := by
          rw [hd]
          simp only [valB, hx, wrapB_eq, Am.wrap_u64]
          omega
        refine OS.pure rfl (e_is (fun _ => rfl) (congrArg (Value.int .u64) key)) rfl ?_
        refine OS.pure rfl (fun _ => rfl) rfl ?_
        refine OS.nil ?_
        repeat refine LS.seq ?_
        refine LS.region rfl ?_
        refine OS.pure rfl (fun _ => rfl) rfl ?_
        refine OS.pure rfl (e_is (e_sub (m := (q : Nat)) (n := 1) rfl rfl rfl (in_i64 (by omega) (by omega))) (congrArg (Value.int .i64) (show ((q : Nat) : Int) - 1 = ((q - 1 : Nat) : Int) by omega))) rfl ?_
        refine OS.pure rfl (fun _ => rfl) rfl ?_
        refine OS.nil ?_
        exact ⟨q - 1, by omega, q - 1, rfl, by omega, rfl, rfl⟩
      · have hb3 : (!ileB (q : Int) 0) = false := by rw [ileB_eq]; simp; omega
        have hq : q = 0 := by omega
        subst hq
        repeat refine LS.seq ?_
        refine LS.region rfl ?_
        refine OS.pure rfl (fun _ => rfl) rfl ?_
        refine OS.pure rfl (e_is (fun _ => rfl) (congrArg Value.bool hb3)) rfl ?_
        refine OS.nil ?_
        refine LS.cond rfl (fun hc => by cases hc) (fun hc => ?_)
        refine LS.exit ?_
        exact ⟨rfl, rfl⟩
    rintro a L ⟨rfl, rfl⟩
    generalize hu : valB (bs.take n) % 18446744073709551616 = u at *
    have hul : u < 18446744073709551616 := by rw [← hu]; exact Nat.mod_lt _ (by omega)
    have hiff : (grp u = bs.take n) ↔ (gat bs).2 = n := by
      constructor
      · intro h
        have hp : grp u <+: bs := by rw [h]; exact List.take_prefix _ _
        rw [gat_some hul hp]
        simp only
        rw [h]; simp; omega
      · intro h
        rcases gat_inv bs with h0 | ⟨w, hp, he, hw⟩
        · rw [h0] at h; simp only at h; omega
        · rw [he] at h
          simp only at h
          obtain ⟨rest, hrest⟩ := hp
          have ht : bs.take n = grp w := by rw [← hrest, ← h, List.take_left]
          rw [ht, ← hu, ht, valB_grp, Nat.mod_eq_of_lt hw]
    repeat refine LS.seq ?_
    refine LS.drawn noGo mixed [(0, false), (1, false), (2, false), (3, false), (4, false), (5, false), (6, false), (7, false), (8, false), (9, false)] rfl rfl (by kernel_rfl) ?_
    refine ODS.pure rfl rfl (fun _ => rfl) rfl ?_
    refine ODS.still rfl rfl (fun _ => rfl) (CQ.still (groups_cs u hul) rfl) rfl ?_
    refine ODS.pure rfl rfl (fun _ => rfl) rfl ?_
    refine ODS.pure rfl rfl (fun _ => rfl) rfl ?_
    refine ODS.pure rfl rfl (fun _ => rfl) rfl ?_
    refine ODS.read rfl rfl (e_load 0 rfl rfl rfl rfl rfl) rfl ?_
    refine ODS.pure rfl rfl (fun _ => rfl) rfl ?_
    refine ODS.cutT (T := M) (l := 0) (u := n) (fun p hp => List.mem_cons_of_mem _ hp) hv rfl rfl rfl rfl rfl rfl rfl bound_nat rfl rfl (by omega) (by omega) (fun v' hv' => ?_)
    refine ⟨_, rfl, ?_⟩
    rw [List.drop_zero, Nat.sub_zero] at hv'
    refine ODS.read rfl rfl (e_textSV hv'.sv.cons rfl rfl rfl rfl rfl) rfl ?_
    by_cases hm : (gat bs).2 = n
    · have hgr := hiff.2 hm
      have hb4 : bytesEq (grp u) (bs.take n) = true := by rw [bytesEq_eq, hgr]; simp
      refine ODS.pure rfl rfl (e_is (fun _ => rfl) (congrArg Value.bool hb4)) rfl ?_
      refine ODS.nil ?_
      refine LS.cond rfl (fun hc => ?_) (fun hc => by cases hc)
      repeat refine LS.seq ?_
      refine LS.region rfl ?_
      refine OS.pure rfl (fun _ => rfl) rfl ?_
      refine OS.pure rfl (fun _ => rfl) rfl ?_
      refine OS.pure rfl (fun _ => rfl) rfl ?_
      refine OS.pure rfl (fun _ => rfl) rfl ?_
      refine OS.nil ?_
      refine LS.ret ⟨_, fun _ _ => rfl, ?_⟩
      have hp : grp u <+: bs := by rw [hgr]; exact List.take_prefix _ _
      have he := gat_some hul hp
      refine ⟨?_, rfl⟩
      rw [show (gat bs).1 = u by rw [he], hm]
      rfl
    · have hgr : grp u ≠ bs.take n := fun h => hm (hiff.1 h)
      have hb4 : bytesEq (grp u) (bs.take n) = false := by rw [bytesEq_eq]; simpa using hgr
      refine ODS.pure rfl rfl (e_is (fun _ => rfl) (congrArg Value.bool hb4)) rfl ?_
      refine ODS.nil ?_
      refine LS.cond rfl (fun hc => by cases hc) (fun hc => ?_)
      refine LS.skip ?_
      repeat refine LS.seq ?_
      refine LS.region rfl ?_
      refine OS.pure rfl (fun _ => rfl) rfl ?_
      refine OS.pure rfl (e_add rfl rfl rfl (in_i64 (by omega) (by omega))) rfl ?_
      refine OS.pure rfl (fun _ => rfl) rfl ?_
      refine OS.nil ?_
      exact ⟨11 - (n + 1), by omega, n + 1, rfl, by omega, by omega, by omega, by omega, rfl, rfl⟩
  · have hz : gat bs = (0, 0) := by
      rcases gat_inv bs with h0 | ⟨w, hp, he, hw⟩
      · exact h0
      · have := grp_pos w
        have : (gat bs).2 = (grp w).length := by rw [he]
        omega
    by_cases h10 : n ≤ 10
    · have hb1 : ileB (n : Int) 10 = true := ileB_iff.2 (by omega)
      have hb2 : ileB (n : Int) (bs.length : Nat) = false := by rw [ileB_eq]; simp; omega
      repeat refine LS.seq ?_
      refine LS.region rfl ?_
      refine OS.pure rfl (fun _ => rfl) rfl ?_
      refine OS.pure rfl (e_is (fun _ => rfl) (congrArg Value.bool hb1)) rfl ?_
      refine OS.pure rfl (fun _ => rfl) rfl ?_
      refine OS.pure rfl (fun _ => rfl) rfl ?_
      refine OS.pure rfl (fun _ => rfl) rfl ?_
      refine OS.pure rfl (fun _ => rfl) rfl ?_
      refine OS.pure rfl (fun _ => rfl) rfl ?_
      refine OS.read rfl (e_load 0 rfl rfl rfl rfl rfl) rfl ?_
      refine OS.pure rfl (e_len hv.sv rfl rfl rfl rfl rfl) rfl ?_
      refine OS.pure rfl (e_is (fun _ => rfl) (congrArg Value.bool hb2)) rfl ?_
      refine OS.pure rfl (fun _ => rfl) rfl ?_
      refine OS.nil ?_
      refine LS.cond rfl (fun hc => by cases hc) (fun hc => ?_)
      refine LS.exit ?_
      repeat refine LS.seq ?_
      refine LS.region rfl ?_
      refine OS.pure rfl (fun _ => rfl) rfl ?_
      refine OS.pure rfl (fun _ => rfl) rfl ?_
      refine OS.nil ?_
      refine LS.ret ⟨_, fun _ _ => rfl, ?_⟩
      rw [hz]; exact ⟨rfl, rfl⟩
    · have hb1 : ileB (n : Int) 10 = false := by rw [ileB_eq]; simp; omega
      repeat refine LS.seq ?_
      refine LS.region rfl ?_
      refine OS.pure rfl (fun _ => rfl) rfl ?_
      refine OS.pure rfl (e_is (fun _ => rfl) (congrArg Value.bool hb1)) rfl ?_
      refine OS.pure rfl (fun _ => rfl) rfl ?_
      refine OS.skip rfl rfl ?_
      refine OS.skip rfl rfl ?_
      refine OS.skip rfl rfl ?_
      refine OS.skip rfl rfl ?_
      refine OS.skip rfl rfl ?_
      refine OS.skip rfl rfl ?_
      refine OS.skip rfl rfl ?_
      refine OS.pure rfl (fun _ => rfl) rfl ?_
      refine OS.nil ?_
      refine LS.cond rfl (fun hc => by cases hc) (fun hc => ?_)
      refine LS.exit ?_
      repeat refine LS.seq ?_
      refine LS.region rfl ?_
      refine OS.pure rfl (fun _ => rfl) rfl ?_
      refine OS.pure rfl (fun _ => rfl) rfl ?_
      refine OS.nil ?_
      refine LS.ret ⟨_, fun _ _ => rfl, ?_⟩
      rw [hz]; exact ⟨rfl, rfl⟩

/-- What has failed, or fails here. -/
theorem fail_post {α : Type} {mk : α → Value} {z t : α} {k r : Nat} {T M : RL} {bs : List UInt8} {f : Bool} (hf : f = true → bs = []) (hz : k = 0) : mk z = mk (tk z t k (bs, f)).1 ∧ RRR T M r (tk z t k (bs, f)).2 ((r, rrRowOf (.slice none 0 0) true) :: M) := by
  subst hz
  cases f with
  | true => rw [tk_failed]; exact ⟨rfl, _, rfl, .inl ⟨rfl, hf rfl⟩⟩
  | false => rw [tk_none]; exact ⟨rfl, _, rfl, .inl ⟨rfl, rfl⟩⟩
theorem gat_nil : gat [] = (0, 0) := rfl

theorem rcount_ct {M : RL} {r : Nat} {v : Value} {f : Bool} {bs : List UInt8} {most : Int} (h0 : -9223372036854775808 ≤ most) (h1 : most ≤ 9223372036854775807) (hv : OV M v bs) (hn : bs.length ≤ 9223372036854775807) :
    CS Try.prog 84 [.pointer (some ⟨r, 0, none⟩), .int .i64 most] ((r, rrRowOf v f) :: M) fun v' L' => v' = .tuple #[.int .i64 ((cAt bs most).1 : Nat), .int .i64 ((cAt bs most).2 : Nat)] ∧ L' = (r, rrRowOf v f) :: M := by
  have hg := gat_lt bs
  refine CS.mk (fn := Try.f84) rfl rfl rfl rfl ?_
  repeat refine LS.seq ?_
  refine LS.region rfl ?_
  refine OS.pure rfl (fun _ => rfl) rfl ?_
  refine OS.pure rfl (fun _ => rfl) rfl ?_
  refine OS.nil ?_
  repeat refine LS.seq ?_
  refine LS.region rfl ?_
  refine OS.pure rfl (fun _ => rfl) rfl ?_
  refine OS.call noGo rfl (fun _ => rfl) ((off_ct hv hn).mono ?_)
  rintro v' L' ⟨rfl, rfl⟩
  refine ⟨_, rfl, ?_⟩
  refine OS.pure rfl (fun _ => rfl) rfl ?_
  refine OS.pure rfl (fun _ => rfl) rfl ?_
  refine OS.pure rfl (fun _ => rfl) rfl ?_
  refine OS.pure rfl (fun _ => rfl) rfl ?_
  refine OS.pure rfl (fun _ => rfl) rfl ?_
  refine OS.nil ?_
  by_cases hz : (gat bs).2 = 0
  · have hg0 : gat bs = (0, 0) := by
      rcases gat_inv bs with h | ⟨w, hp, he, hw⟩
      · exact h
      · have := grp_pos w
        have : (gat bs).2 = (grp w).length := by rw [he]
        omega
    have hc0 : cAt bs most = (0, 0) := by unfold cAt; split <;> simp [hg0]
    have hb1 : ieqB ((gat bs).2 : Int) 0 = true := by rw [ieqB_eq]; simp; omega
    repeat refine LS.seq ?_
    refine LS.region rfl ?_
    refine OS.pure rfl (fun _ => rfl) rfl ?_
    refine OS.pure rfl (e_is (fun _ => rfl) (congrArg Value.bool hb1)) rfl ?_
    refine OS.pure rfl (fun _ => rfl) rfl ?_
    refine OS.skip rfl rfl ?_
    refine OS.skip rfl rfl ?_
    refine OS.pure rfl (fun _ => rfl) rfl ?_
    refine OS.pure rfl (fun _ => rfl) rfl ?_
    refine OS.skip rfl rfl ?_
    refine OS.skip rfl rfl ?_
    refine OS.skip rfl rfl ?_
    refine OS.skip rfl rfl ?_
    refine OS.pure rfl (fun _ => rfl) rfl ?_
    refine OS.nil ?_
    refine LS.cond rfl (fun hc => ?_) (fun hc => by cases hc)
    repeat refine LS.seq ?_
    refine LS.region rfl ?_
    refine OS.pure rfl (fun _ => rfl) rfl ?_
    refine OS.pure rfl (fun _ => rfl) rfl ?_
    refine OS.nil ?_
    refine LS.ret ⟨_, fun _ _ => rfl, ?_⟩
    rw [hc0]; exact ⟨rfl, rfl⟩
  have hb1 : ieqB ((gat bs).2 : Int) 0 = false := by rw [ieqB_eq]; simp; omega
  by_cases hbig : 2147483647 < (gat bs).1
  · have hb2 : (!ileB ((gat bs).1 : Int) 2147483647) = true := by rw [ileB_eq]; simp; omega
    repeat refine LS.seq ?_
    refine LS.region rfl ?_
    refine OS.pure rfl (fun _ => rfl) rfl ?_
    refine OS.pure rfl (e_is (fun _ => rfl) (congrArg Value.bool hb1)) rfl ?_
    refine OS.pure rfl (fun _ => rfl) rfl ?_
    refine OS.pure rfl (fun _ => rfl) rfl ?_
    refine OS.pure rfl (e_is (fun _ => rfl) (congrArg Value.bool hb2)) rfl ?_
    refine OS.pure rfl (fun _ => rfl) rfl ?_
    refine OS.pure rfl (fun _ => rfl) rfl ?_
    refine OS.skip rfl rfl ?_
    refine OS.skip rfl rfl ?_
    refine OS.skip rfl rfl ?_
    refine OS.skip rfl rfl ?_
    refine OS.pure rfl (fun _ => rfl) rfl ?_
    refine OS.nil ?_
    refine LS.cond rfl (fun hc => ?_) (fun hc => by cases hc)
    repeat refine LS.seq ?_
    refine LS.region rfl ?_
    refine OS.pure rfl (fun _ => rfl) rfl ?_
    refine OS.pure rfl (fun _ => rfl) rfl ?_
    refine OS.nil ?_
    refine LS.ret ⟨_, fun _ _ => rfl, ?_⟩
    rw [cAt_no (by omega)]; exact ⟨rfl, rfl⟩
  have hb2 : (!ileB ((gat bs).1 : Int) 2147483647) = false := by rw [ileB_eq]; simp; omega
  repeat refine LS.seq ?_
  refine LS.region rfl ?_
  refine OS.pure rfl (fun _ => rfl) rfl ?_
  refine OS.pure rfl (e_is (fun _ => rfl) (congrArg Value.bool hb1)) rfl ?_
  refine OS.pure rfl (fun _ => rfl) rfl ?_
  refine OS.pure rfl (fun _ => rfl) rfl ?_
  refine OS.pure rfl (e_is (fun _ => rfl) (congrArg Value.bool hb2)) rfl ?_
  refine OS.pure rfl (fun _ => rfl) rfl ?_
  refine OS.pure rfl (fun _ => rfl) rfl ?_
  refine OS.pure rfl (fun _ => rfl) rfl ?_
  refine OS.pure rfl (fun _ => rfl) rfl ?_
  refine OS.pure rfl (e_conv rfl rfl rfl rfl (in_i64 (by omega) (by omega))) rfl ?_
  refine OS.pure rfl (fun _ => rfl) rfl ?_
  refine OS.pure rfl (fun _ => rfl) rfl ?_
  refine OS.nil ?_
  refine LS.cond (b := !ileB ((gat bs).1 : Int) most) rfl (fun hc => ?_) (fun hc => ?_)
  · have hc := lt_of hc
    repeat refine LS.seq ?_
    refine LS.region rfl ?_
    refine OS.pure rfl (fun _ => rfl) rfl ?_
    refine OS.pure rfl (fun _ => rfl) rfl ?_
    refine OS.nil ?_
    refine LS.ret ⟨_, fun _ _ => rfl, ?_⟩
    rw [cAt_no (by omega)]; exact ⟨rfl, rfl⟩
  · have hc := nlt_of hc
    refine LS.skip ?_
    repeat refine LS.seq ?_
    refine LS.region rfl ?_
    refine OS.pure rfl (fun _ => rfl) rfl ?_
    refine OS.pure rfl (e_conv rfl rfl rfl rfl (in_i64 (by omega) (by omega))) rfl ?_
    refine OS.pure rfl (fun _ => rfl) rfl ?_
    refine OS.pure rfl (fun _ => rfl) rfl ?_
    refine OS.pure rfl (fun _ => rfl) rfl ?_
    refine OS.nil ?_
    refine LS.ret ⟨_, fun _ _ => rfl, ?_⟩
    rw [cAt_yes (by omega) (by omega) (by omega)]; exact ⟨rfl, rfl⟩

theorem rNum_ct {M : RL} {r : Nat} {bs : List UInt8} {f : Bool} {v : Value} {T : RL} (hT : ∀ p, p ∈ T → p ∈ M) (hv : OV T v bs) (hf : f = true → bs = []) (hn : bs.length ≤ 9223372036854775807) :
    CS Try.prog 57 [.pointer (some ⟨r, 0, none⟩)] ((r, rrRowOf v f) :: M) fun v' L' => v' = .int .i64 (tk (0 : Int) (unz (gat bs).1) (gat bs).2 (bs, f)).1 ∧ RRR T M r (tk (0 : Int) (unz (gat bs).1) (gat bs).2 (bs, f)).2 L' := by
  have hgl := gat_lt bs
  have hle := gat_len bs
  refine CS.mk (fn := Try.f57) rfl rfl rfl rfl ?_
  repeat refine LS.seq ?_
  refine LS.region rfl ?_
  refine OS.pure rfl (fun _ => rfl) rfl ?_
  refine OS.nil ?_
  repeat refine LS.seq ?_
  refine LS.region rfl ?_
  refine OS.pure rfl (fun _ => rfl) rfl ?_
  refine OS.call noGo rfl (fun _ => rfl) ((off_ct (hv.mono hT) hn).mono ?_)
  rintro v' L' ⟨rfl, rfl⟩
  refine ⟨_, rfl, ?_⟩
  refine OS.pure rfl (fun _ => rfl) rfl ?_
  refine OS.pure rfl (fun _ => rfl) rfl ?_
  refine OS.pure rfl (fun _ => rfl) rfl ?_
  refine OS.pure rfl (fun _ => rfl) rfl ?_
  refine OS.pure rfl (fun _ => rfl) rfl ?_
  refine OS.nil ?_
  by_cases hz : (gat bs).2 = 0
  · have hb1 : ieqB ((gat bs).2 : Int) 0 = true := by rw [ieqB_eq]; simp; omega
    repeat refine LS.seq ?_
    refine LS.region rfl ?_
    refine OS.pure rfl (fun _ => rfl) rfl ?_
    refine OS.pure rfl (e_is (fun _ => rfl) (congrArg Value.bool hb1)) rfl ?_
    refine OS.nil ?_
    refine LS.cond rfl (fun hc => ?_) (fun hc => by cases hc)
    repeat refine LS.seq ?_
    refine LS.region rfl ?_
    refine OS.pure rfl (fun _ => rfl) rfl ?_
    refine OS.call noGo rfl (fun _ => rfl) ((rfails_ct).mono ?_)
    rintro v' L' rfl
    refine ⟨_, rfl, ?_⟩
    refine OS.nil ?_
    repeat refine LS.seq ?_
    refine LS.region rfl ?_
    refine OS.pure rfl (fun _ => rfl) rfl ?_
    refine OS.nil ?_
    refine LS.ret ⟨_, fun _ _ => rfl, ?_⟩
    exact fail_post (mk := Value.int .i64) hf hz
  · have hff : f = false := by
      cases f with
      | false => rfl
      | true => rw [hf rfl, gat_nil] at hz; exact absurd rfl hz
    subst hff
    have hb1 : ieqB ((gat bs).2 : Int) 0 = false := by rw [ieqB_eq]; simp; omega
    repeat refine LS.seq ?_
    refine LS.region rfl ?_
    refine OS.pure rfl (fun _ => rfl) rfl ?_
    refine OS.pure rfl (e_is (fun _ => rfl) (congrArg Value.bool hb1)) rfl ?_
    refine OS.nil ?_
    refine LS.cond rfl (fun hc => by cases hc) (fun hc => ?_)
    refine LS.skip ?_
    repeat refine LS.seq ?_
    refine LS.region rfl ?_
    refine OS.pure rfl (fun _ => rfl) rfl ?_
    refine OS.pure rfl (fun _ => rfl) rfl ?_
    refine OS.pure rfl (fun _ => rfl) rfl ?_
    refine OS.pure rfl (fun _ => rfl) rfl ?_
    refine OS.read rfl (e_load 0 rfl rfl rfl rfl rfl) rfl ?_
    refine OS.pure rfl (fun _ => rfl) rfl ?_
    refine OS.cutT (l := (gat bs).2) (u := bs.length) (fun p hp => List.mem_cons_of_mem _ (hT p hp)) hv rfl rfl rfl rfl rfl bound_nat rfl rfl rfl (by omega) (by omega) (fun v' hv' => ?_)
    rw [List.take_of_length_le (by simp)] at hv'
    have hone := OV.one hv'
    refine ⟨_, rfl, ?_⟩
    refine OS.pure rfl (fun _ => rfl) rfl ?_
    refine OS.pure rfl (fun _ => rfl) rfl ?_
    refine OS.write rfl (e_store 0 (n := 1) (cs' := [v', .bool false]) rfl rfl rfl rfl rfl (by rw [hone.1, hone.2]; rfl) (by rw [hone.2]; rfl) rfl) rfl ?_
    refine OS.nil ?_
    repeat refine LS.seq ?_
    refine LS.region rfl ?_
    refine OS.pure rfl (fun _ => rfl) rfl ?_
    refine OS.pure rfl (e_quo (n := 2) rfl rfl rfl (by decide) (in_u64 (by omega) (by omega))) rfl ?_
    refine OS.pure rfl (e_conv rfl rfl rfl rfl (in_i64 (by omega) (by omega))) rfl ?_
    refine OS.pure rfl (fun _ => rfl) rfl ?_
    refine OS.nil ?_
    rw [tk_some hz]
    by_cases h : (gat bs).1 % 2 = 1
    · have hb : ieqB (((gat bs).1 % 2 : Nat) : Int) 1 = true := by rw [ieqB_eq]; simp; omega
      repeat refine LS.seq ?_
      refine LS.region rfl ?_
      refine OS.pure rfl (fun _ => rfl) rfl ?_
      refine OS.pure rfl (e_rem (n := 2) rfl rfl rfl (by decide)) rfl ?_
      refine OS.pure rfl (e_is (fun _ => rfl) (congrArg Value.bool hb)) rfl ?_
      refine OS.nil ?_
      refine LS.cond rfl (fun hc => ?_) (fun hc => by cases hc)
      repeat refine LS.seq ?_
      refine LS.region rfl ?_
      refine OS.pure rfl (fun _ => rfl) rfl ?_
      refine OS.pure rfl (e_is (fun _ => rfl) (congrArg (Value.int .i64) (wrap_in (n := 0 - (((gat bs).1 / 2 : Nat) : Int)) (in_i64 (by omega) (by omega))))) rfl ?_
      refine OS.pure rfl (e_sub rfl rfl rfl (in_i64 (by omega) (by omega))) rfl ?_
      refine OS.pure rfl (fun _ => rfl) rfl ?_
      refine OS.nil ?_
      refine LS.ret ⟨_, fun _ _ => rfl, ?_⟩
      refine ⟨?_, v', rfl, hv'⟩
      unfold unz
      rw [if_pos h]
      exact congrArg (Value.int .i64) (by omega)
    · have hb : ieqB (((gat bs).1 % 2 : Nat) : Int) 1 = false := by rw [ieqB_eq]; simp; omega
      repeat refine LS.seq ?_
      refine LS.region rfl ?_
      refine OS.pure rfl (fun _ => rfl) rfl ?_
      refine OS.pure rfl (e_rem (n := 2) rfl rfl rfl (by decide)) rfl ?_
      refine OS.pure rfl (e_is (fun _ => rfl) (congrArg Value.bool hb)) rfl ?_
      refine OS.nil ?_
      refine LS.cond rfl (fun hc => by cases hc) (fun hc => ?_)
      refine LS.skip ?_
      repeat refine LS.seq ?_
      refine LS.region rfl ?_
      refine OS.pure rfl (fun _ => rfl) rfl ?_
      refine OS.pure rfl (fun _ => rfl) rfl ?_
      refine OS.nil ?_
      refine LS.ret ⟨_, fun _ _ => rfl, ?_⟩
      refine ⟨?_, v', rfl, hv'⟩
      unfold unz
      rw [if_neg h]
      rfl

theorem rCountT_ct {M : RL} {r : Nat} {bs : List UInt8} {f : Bool} {v : Value} {most : Int} (h0 : -9223372036854775808 ≤ most) (h1 : most ≤ 9223372036854775807) {T : RL} (hT : ∀ p, p ∈ T → p ∈ M) (hv : OV T v bs) (hf : f = true → bs = []) (hn : bs.length ≤ 9223372036854775807) :
    CS Try.prog 58 [.pointer (some ⟨r, 0, none⟩), .int .i64 most] ((r, rrRowOf v f) :: M) fun v' L' => v' = .int .i64 (tk (0 : Int) ((cAt bs most).1 : Int) (cAt bs most).2 (bs, f)).1 ∧ RRR T M r (tk (0 : Int) ((cAt bs most).1 : Int) (cAt bs most).2 (bs, f)).2 L' := by
  obtain ⟨hc1, hc2, hc3⟩ := cAt_le bs most
  refine CS.mk (fn := Try.f58) rfl rfl rfl rfl ?_
  repeat refine LS.seq ?_
  refine LS.region rfl ?_
  refine OS.pure rfl (fun _ => rfl) rfl ?_
  refine OS.nil ?_
  repeat refine LS.seq ?_
  refine LS.region rfl ?_
  refine OS.pure rfl (fun _ => rfl) rfl ?_
  refine OS.pure rfl (fun _ => rfl) rfl ?_
  refine OS.call noGo rfl (fun _ => rfl) ((rcount_ct h0 h1 (hv.mono hT) hn).mono ?_)
  rintro v' L' ⟨rfl, rfl⟩
  refine ⟨_, rfl, ?_⟩
  refine OS.pure rfl (fun _ => rfl) rfl ?_
  refine OS.pure rfl (fun _ => rfl) rfl ?_
  refine OS.pure rfl (fun _ => rfl) rfl ?_
  refine OS.pure rfl (fun _ => rfl) rfl ?_
  refine OS.pure rfl (fun _ => rfl) rfl ?_
  refine OS.nil ?_
  by_cases hz : (cAt bs most).2 = 0
  · have hb1 : ieqB ((cAt bs most).2 : Int) 0 = true := by rw [ieqB_eq]; simp; omega
    repeat refine LS.seq ?_
    refine LS.region rfl ?_
    refine OS.pure rfl (fun _ => rfl) rfl ?_
    refine OS.pure rfl (e_is (fun _ => rfl) (congrArg Value.bool hb1)) rfl ?_
    refine OS.nil ?_
    refine LS.cond rfl (fun hc => ?_) (fun hc => by cases hc)
    repeat refine LS.seq ?_
    refine LS.region rfl ?_
    refine OS.pure rfl (fun _ => rfl) rfl ?_
    refine OS.call noGo rfl (fun _ => rfl) ((rfails_ct).mono ?_)
    rintro v' L' rfl
    refine ⟨_, rfl, ?_⟩
    refine OS.nil ?_
    repeat refine LS.seq ?_
    refine LS.region rfl ?_
    refine OS.pure rfl (fun _ => rfl) rfl ?_
    refine OS.nil ?_
    refine LS.ret ⟨_, fun _ _ => rfl, ?_⟩
    exact fail_post (mk := Value.int .i64) hf hz
  · have hff : f = false := by
      cases f with
      | false => rfl
      | true => have hb0 := hf rfl; subst hb0; simp at hc3; exact absurd hc3 hz
    subst hff
    have hb1 : ieqB ((cAt bs most).2 : Int) 0 = false := by rw [ieqB_eq]; simp; omega
    repeat refine LS.seq ?_
    refine LS.region rfl ?_
    refine OS.pure rfl (fun _ => rfl) rfl ?_
    refine OS.pure rfl (e_is (fun _ => rfl) (congrArg Value.bool hb1)) rfl ?_
    refine OS.nil ?_
    refine LS.cond rfl (fun hc => by cases hc) (fun hc => ?_)
    refine LS.skip ?_
    repeat refine LS.seq ?_
    refine LS.region rfl ?_
    refine OS.pure rfl (fun _ => rfl) rfl ?_
    refine OS.pure rfl (fun _ => rfl) rfl ?_
    refine OS.pure rfl (fun _ => rfl) rfl ?_
    refine OS.pure rfl (fun _ => rfl) rfl ?_
    refine OS.read rfl (e_load 0 rfl rfl rfl rfl rfl) rfl ?_
    refine OS.pure rfl (fun _ => rfl) rfl ?_
    refine OS.cutT (l := (cAt bs most).2) (u := bs.length) (fun p hp => List.mem_cons_of_mem _ (hT p hp)) hv rfl rfl rfl rfl rfl bound_nat rfl rfl rfl (by omega) (by omega) (fun v' hv' => ?_)
    rw [List.take_of_length_le (by simp)] at hv'
    have hone := OV.one hv'
    refine ⟨_, rfl, ?_⟩
    refine OS.pure rfl (fun _ => rfl) rfl ?_
    refine OS.pure rfl (fun _ => rfl) rfl ?_
    refine OS.write rfl (e_store 0 (n := 1) (cs' := [v', .bool false]) rfl rfl rfl rfl rfl (by rw [hone.1, hone.2]; rfl) (by rw [hone.2]; rfl) rfl) rfl ?_
    refine OS.nil ?_
    rw [tk_some hz]
    repeat refine LS.seq ?_
    refine LS.region rfl ?_
    refine OS.pure rfl (fun _ => rfl) rfl ?_
    refine OS.pure rfl (fun _ => rfl) rfl ?_
    refine OS.nil ?_
    refine LS.ret ⟨_, fun _ _ => rfl, ?_⟩
    exact ⟨rfl, v', rfl, hv'⟩

theorem rStrT_ct {M : RL} {r : Nat} {bs : List UInt8} {f : Bool} {v : Value} {most : Int} (h0 : -9223372036854775808 ≤ most) (h1 : most ≤ 9223372036854775807) {T : RL} (hT : ∀ p, p ∈ T → p ∈ M) (hv : OV T v bs) (hf : f = true → bs = []) (hn : bs.length ≤ 9223372036854775807) :
    CS Try.prog 59 [.pointer (some ⟨r, 0, none⟩), .int .i64 most] ((r, rrRowOf v f) :: M) fun v' L' => v' = txt (tk ([] : List UInt8) (sAt bs most).1 (sAt bs most).2 (bs, f)).1 ∧ RRR T M r (tk ([] : List UInt8) (sAt bs most).1 (sAt bs most).2 (bs, f)).2 L' := by
  obtain ⟨hc1, hc2, hc3⟩ := cAt_le bs most
  have hse := sAt_eq (bs := bs) (most := most) (m := (cAt bs most).1) (hd := (cAt bs most).2) rfl
  refine CS.mk (fn := Try.f59) rfl rfl rfl rfl ?_
  repeat refine LS.seq ?_
  refine LS.region rfl ?_
  refine OS.pure rfl (fun _ => rfl) rfl ?_
  refine OS.nil ?_
  repeat refine LS.seq ?_
  refine LS.region rfl ?_
  refine OS.pure rfl (fun _ => rfl) rfl ?_
  refine OS.pure rfl (fun _ => rfl) rfl ?_
  refine OS.call noGo rfl (fun _ => rfl) ((rcount_ct h0 h1 (hv.mono hT) hn).mono ?_)
  rintro v' L' ⟨rfl, rfl⟩
  generalize (cAt bs most).1 = m at *
  generalize (cAt bs most).2 = hd at *
  refine ⟨_, rfl, ?_⟩
  refine OS.pure rfl (fun _ => rfl) rfl ?_
  refine OS.pure rfl (fun _ => rfl) rfl ?_
  refine OS.pure rfl (fun _ => rfl) rfl ?_
  refine OS.pure rfl (fun _ => rfl) rfl ?_
  refine OS.pure rfl (fun _ => rfl) rfl ?_
  refine OS.nil ?_
  have haddm : ((hd : Nat) : Int) + ((m : Nat) : Int) = ((hd + m : Nat) : Int) := by omega
  by_cases h0d : hd = 0
  · have hz : (sAt bs most).2 = 0 := by rw [hse, if_pos (.inl h0d)]
    have hb1 : ieqB ((hd : Nat) : Int) 0 = true := by rw [ieqB_eq]; simp; omega
    repeat refine LS.seq ?_
    refine LS.region rfl ?_
    refine OS.pure rfl (fun _ => rfl) rfl ?_
    refine OS.pure rfl (e_is (fun _ => rfl) (congrArg Value.bool hb1)) rfl ?_
    refine OS.pure rfl (fun _ => rfl) rfl ?_
    refine OS.skip rfl rfl ?_
    refine OS.skip rfl rfl ?_
    refine OS.skip rfl rfl ?_
    refine OS.skip rfl rfl ?_
    refine OS.skip rfl rfl ?_
    refine OS.skip rfl rfl ?_
    refine OS.skip rfl rfl ?_
    refine OS.skip rfl rfl ?_
    refine OS.skip rfl rfl ?_
    refine OS.pure rfl (fun _ => rfl) rfl ?_
    refine OS.nil ?_
    refine LS.cond rfl (fun hc => ?_) (fun hc => by cases hc)
    repeat refine LS.seq ?_
    refine LS.region rfl ?_
    refine OS.pure rfl (fun _ => rfl) rfl ?_
    refine OS.call noGo rfl (fun _ => rfl) ((rfails_ct).mono ?_)
    rintro v' L' rfl
    refine ⟨_, rfl, ?_⟩
    refine OS.nil ?_
    repeat refine LS.seq ?_
    refine LS.region rfl ?_
    refine OS.pure rfl (fun _ => rfl) rfl ?_
    refine OS.nil ?_
    refine LS.ret ⟨_, fun _ _ => rfl, ?_⟩
    exact fail_post (mk := txt) hf hz
  have hff : f = false := by
    cases f with
    | false => rfl
    | true => have hb0 := hf rfl; subst hb0; simp at hc3; exact absurd hc3 h0d
  subst hff
  have hb1 : ieqB ((hd : Nat) : Int) 0 = false := by rw [ieqB_eq]; simp; omega
  by_cases hlt : bs.length < hd + m
  · have hz : (sAt bs most).2 = 0 := by rw [hse, if_pos (.inr hlt)]
    have hb2 : (!ileB ((hd + m : Nat) : Int) (bs.length : Nat)) = true := by rw [ileB_eq]; simp; omega
    repeat refine LS.seq ?_
    refine LS.region rfl ?_
    refine OS.pure rfl (fun _ => rfl) rfl ?_
    refine OS.pure rfl (e_is (fun _ => rfl) (congrArg Value.bool hb1)) rfl ?_
    refine OS.pure rfl (fun _ => rfl) rfl ?_
    refine OS.pure rfl (fun _ => rfl) rfl ?_
    refine OS.pure rfl (fun _ => rfl) rfl ?_
    refine OS.pure rfl (e_is (e_add (m := (hd : Nat)) (n := (m : Nat)) rfl rfl rfl (in_i64 (by omega) (by omega))) (congrArg (Value.int .i64) haddm)) rfl ?_
    refine OS.pure rfl (fun _ => rfl) rfl ?_
    refine OS.pure rfl (fun _ => rfl) rfl ?_
    refine OS.pure rfl (fun _ => rfl) rfl ?_
    refine OS.read rfl (e_load 0 rfl rfl rfl rfl rfl) rfl ?_
    refine OS.pure rfl (e_len hv.sv rfl rfl rfl rfl rfl) rfl ?_
    refine OS.pure rfl (e_is (fun _ => rfl) (congrArg Value.bool hb2)) rfl ?_
    refine OS.pure rfl (fun _ => rfl) rfl ?_
    refine OS.nil ?_
    refine LS.cond rfl (fun hc => ?_) (fun hc => by cases hc)
    repeat refine LS.seq ?_
    refine LS.region rfl ?_
    refine OS.pure rfl (fun _ => rfl) rfl ?_
    refine OS.call noGo rfl (fun _ => rfl) ((rfails_ct).mono ?_)
    rintro v' L' rfl
    refine ⟨_, rfl, ?_⟩
    refine OS.nil ?_
    repeat refine LS.seq ?_
    refine LS.region rfl ?_
    refine OS.pure rfl (fun _ => rfl) rfl ?_
    refine OS.nil ?_
    refine LS.ret ⟨_, fun _ _ => rfl, ?_⟩
    exact fail_post (mk := txt) hf hz
  · have hb2 : (!ileB ((hd + m : Nat) : Int) (bs.length : Nat)) = false := by rw [ileB_eq]; simp; omega
    repeat refine LS.seq ?_
    refine LS.region rfl ?_
    refine OS.pure rfl (fun _ => rfl) rfl ?_
    refine OS.pure rfl (e_is (fun _ => rfl) (congrArg Value.bool hb1)) rfl ?_
    refine OS.pure rfl (fun _ => rfl) rfl ?_
    refine OS.pure rfl (fun _ => rfl) rfl ?_
    refine OS.pure rfl (fun _ => rfl) rfl ?_
    refine OS.pure rfl (e_is (e_add (m := (hd : Nat)) (n := (m : Nat)) rfl rfl rfl (in_i64 (by omega) (by omega))) (congrArg (Value.int .i64) haddm)) rfl ?_
    refine OS.pure rfl (fun _ => rfl) rfl ?_
    refine OS.pure rfl (fun _ => rfl) rfl ?_
    refine OS.pure rfl (fun _ => rfl) rfl ?_
    refine OS.read rfl (e_load 0 rfl rfl rfl rfl rfl) rfl ?_
    refine OS.pure rfl (e_len hv.sv rfl rfl rfl rfl rfl) rfl ?_
    refine OS.pure rfl (e_is (fun _ => rfl) (congrArg Value.bool hb2)) rfl ?_
    refine OS.pure rfl (fun _ => rfl) rfl ?_
    refine OS.nil ?_
    refine LS.cond rfl (fun hc => by cases hc) (fun hc => ?_)
    refine LS.skip ?_
    repeat refine LS.seq ?_
    refine LS.region rfl ?_
    refine OS.pure rfl (fun _ => rfl) rfl ?_
    refine OS.pure rfl (fun _ => rfl) rfl ?_
    refine OS.pure rfl (fun _ => rfl) rfl ?_
    refine OS.read rfl (e_load 0 rfl rfl rfl rfl rfl) rfl ?_
    refine OS.pure rfl (fun _ => rfl) rfl ?_
    refine OS.pure rfl (fun _ => rfl) rfl ?_
    refine OS.pure rfl (fun _ => rfl) rfl ?_
    refine OS.pure rfl (e_is (e_add (m := (hd : Nat)) (n := (m : Nat)) rfl rfl rfl (in_i64 (by omega) (by omega))) (congrArg (Value.int .i64) haddm)) rfl ?_
    refine OS.cutT (l := hd) (u := hd + m) (fun p hp => List.mem_cons_of_mem _ (hT p hp)) hv rfl rfl rfl rfl rfl bound_nat bound_nat rfl rfl (by omega) (by omega) (fun vs hvs => ?_)
    refine ⟨_, rfl, ?_⟩
    refine OS.read rfl (e_textSV (hvs.sv.mono fun p hp => List.mem_cons_of_mem _ (hT p hp)) rfl rfl rfl rfl rfl) rfl ?_
    refine OS.pure rfl (fun _ => rfl) rfl ?_
    refine OS.nil ?_
    repeat refine LS.seq ?_
    refine LS.region rfl ?_
    refine OS.pure rfl (fun _ => rfl) rfl ?_
    refine OS.pure rfl (fun _ => rfl) rfl ?_
    refine OS.pure rfl (fun _ => rfl) rfl ?_
    refine OS.pure rfl (fun _ => rfl) rfl ?_
    refine OS.read rfl (e_load 0 rfl rfl rfl rfl rfl) rfl ?_
    refine OS.pure rfl (fun _ => rfl) rfl ?_
    refine OS.pure rfl (fun _ => rfl) rfl ?_
    refine OS.pure rfl (e_is (e_add (m := (hd : Nat)) (n := (m : Nat)) rfl rfl rfl (in_i64 (by omega) (by omega))) (congrArg (Value.int .i64) haddm)) rfl ?_
    refine OS.cutT (l := hd + m) (u := bs.length) (fun p hp => List.mem_cons_of_mem _ (hT p hp)) hv rfl rfl rfl rfl rfl bound_nat rfl rfl rfl (by omega) (by omega) (fun v' hv' => ?_)
    rw [List.take_of_length_le (by simp)] at hv'
    have hone := OV.one hv'
    refine ⟨_, rfl, ?_⟩
    refine OS.pure rfl (fun _ => rfl) rfl ?_
    refine OS.pure rfl (fun _ => rfl) rfl ?_
    refine OS.write rfl (e_store 0 (n := 1) (cs' := [v', .bool false]) rfl rfl rfl rfl rfl (by rw [hone.1, hone.2]; rfl) (by rw [hone.2]; rfl) rfl) rfl ?_
    refine OS.nil ?_
    repeat refine LS.seq ?_
    refine LS.region rfl ?_
    refine OS.pure rfl (fun _ => rfl) rfl ?_
    refine OS.pure rfl (fun _ => rfl) rfl ?_
    refine OS.nil ?_
    refine LS.ret ⟨_, fun _ _ => rfl, ?_⟩
    rw [hse, if_neg (by omega), tk_some (by omega)]
    refine ⟨?_, v', rfl, hv'⟩
    rw [show hd + m - hd = m by omega]
    rfl

theorem rFlag_ct {M : RL} {r : Nat} {bs : List UInt8} {f : Bool} {v : Value} {T : RL} (hT : ∀ p, p ∈ T → p ∈ M) (hv : OV T v bs) (hf : f = true → bs = []) (hn : bs.length ≤ 9223372036854775807) :
    CS Try.prog 60 [.pointer (some ⟨r, 0, none⟩)] ((r, rrRowOf v f) :: M) fun v' L' => v' = .bool (tk false (fAt bs).1 (fAt bs).2 (bs, f)).1 ∧ RRR T M r (tk false (fAt bs).1 (fAt bs).2 (bs, f)).2 L' := by
  refine CS.mk (fn := Try.f60) rfl rfl rfl rfl ?_
  repeat refine LS.seq ?_
  refine LS.region rfl ?_
  refine OS.pure rfl (fun _ => rfl) rfl ?_
  refine OS.nil ?_
  cases bs with
  | nil =>
    have hz : (fAt []).2 = 0 := rfl
    repeat refine LS.seq ?_
    refine LS.region rfl ?_
    refine OS.pure rfl (fun _ => rfl) rfl ?_
    refine OS.pure rfl (fun _ => rfl) rfl ?_
    refine OS.pure rfl (fun _ => rfl) rfl ?_
    refine OS.read rfl (e_load 0 rfl rfl rfl rfl rfl) rfl ?_
    refine OS.pure rfl (e_len hv.sv rfl rfl rfl rfl rfl) rfl ?_
    refine OS.pure rfl (fun _ => rfl) rfl ?_
    refine OS.pure rfl (fun _ => rfl) rfl ?_
    refine OS.skip rfl rfl ?_
    refine OS.skip rfl rfl ?_
    refine OS.skip rfl rfl ?_
    refine OS.skip rfl rfl ?_
    refine OS.skip rfl rfl ?_
    refine OS.skip rfl rfl ?_
    refine OS.skip rfl rfl ?_
    refine OS.pure rfl (fun _ => rfl) rfl ?_
    refine OS.nil ?_
    refine LS.cond rfl (fun hc => ?_) (fun hc => by cases hc)
    repeat refine LS.seq ?_
    refine LS.region rfl ?_
    refine OS.pure rfl (fun _ => rfl) rfl ?_
    refine OS.call noGo rfl (fun _ => rfl) ((rfails_ct).mono ?_)
    rintro v' L' rfl
    refine ⟨_, rfl, ?_⟩
    refine OS.nil ?_
    repeat refine LS.seq ?_
    refine LS.region rfl ?_
    refine OS.pure rfl (fun _ => rfl) rfl ?_
    refine OS.nil ?_
    refine LS.ret ⟨_, fun _ _ => rfl, ?_⟩
    exact fail_post (mk := Value.bool) hf hz
  | cons c bs =>
    have hff : f = false := by
      cases f with
      | false => rfl
      | true => exact absurd (hf rfl) (by simp)
    subst hff
    have hb1 : ieqB (((c :: bs).length : Nat) : Int) 0 = false := by rw [ieqB_eq]; simp; omega
    have hget : (byteCells (c :: bs))[0]? = some (.int .u8 (c.toNat : Int)) := rfl
    have hvM := ((hv.mono hT).cons (x := (r, rrRowOf v false))).sv
    repeat refine LS.seq ?_
    refine LS.region rfl ?_
    refine OS.pure rfl (fun _ => rfl) rfl ?_
    refine OS.pure rfl (fun _ => rfl) rfl ?_
    refine OS.pure rfl (fun _ => rfl) rfl ?_
    refine OS.read rfl (e_load 0 rfl rfl rfl rfl rfl) rfl ?_
    refine OS.pure rfl (e_len hv.sv rfl rfl rfl rfl rfl) rfl ?_
    refine OS.pure rfl (e_is (fun _ => rfl) (congrArg Value.bool hb1)) rfl ?_
    refine OS.pure rfl (fun _ => rfl) rfl ?_
    refine OS.pure rfl (fun _ => rfl) rfl ?_
    refine OS.pure rfl (fun _ => rfl) rfl ?_
    refine OS.pure rfl (fun _ => rfl) rfl ?_
    refine OS.read rfl (e_load 0 rfl rfl rfl rfl rfl) rfl ?_
    refine OS.at1 (j := 0) hvM hget rfl rfl rfl rfl rfl rfl (fun r0 o0 row0 cs0 m0 c0 g0 => ?_)
    refine ⟨_, rfl, ?_⟩
    refine OS.read rfl (e_loadm m0 c0 rfl rfl (part_one rfl g0)) rfl ?_
    refine OS.pure rfl (fun _ => rfl) rfl ?_
    refine OS.pure rfl (fun _ => rfl) rfl ?_
    refine OS.nil ?_
    refine LS.cond (b := !ileB (c.toNat : Int) 1) rfl (fun hc => ?_) (fun hc => ?_)
    · have hc := lt_of hc
      have hz : (fAt (c :: bs)).2 = 0 := by simp only [fAt]; rw [if_pos (by omega)]
      repeat refine LS.seq ?_
      refine LS.region rfl ?_
      refine OS.pure rfl (fun _ => rfl) rfl ?_
      refine OS.call noGo rfl (fun _ => rfl) ((rfails_ct).mono ?_)
      rintro v' L' rfl
      refine ⟨_, rfl, ?_⟩
      refine OS.nil ?_
      repeat refine LS.seq ?_
      refine LS.region rfl ?_
      refine OS.pure rfl (fun _ => rfl) rfl ?_
      refine OS.nil ?_
      refine LS.ret ⟨_, fun _ _ => rfl, ?_⟩
      exact fail_post (mk := Value.bool) hf hz
    · have hc := nlt_of hc
      have hfa : fAt (c :: bs) = (c == 1, 1) := by simp only [fAt]; rw [if_neg (by omega)]
      have he : ieqB (c.toNat : Int) 1 = (c == 1) := by
        rw [ieqB_eq]
        by_cases h : c = 1
        · subst h; rfl
        · have : c.toNat ≠ 1 := fun hh => h (UInt8.toNat_inj.1 hh)
          have h1 : ((c.toNat : Int) == 1) = false := by simpa using (show ¬ (c.toNat : Int) = 1 by omega)
          rw [h1]; simp [h]
      refine LS.skip ?_
      repeat refine LS.seq ?_
      refine LS.region rfl ?_
      refine OS.pure rfl (fun _ => rfl) rfl ?_
      refine OS.pure rfl (fun _ => rfl) rfl ?_
      refine OS.pure rfl (fun _ => rfl) rfl ?_
      refine OS.read rfl (e_load 0 rfl rfl rfl rfl rfl) rfl ?_
      refine OS.at1 (j := 0) hvM hget rfl rfl rfl rfl rfl rfl (fun r0 o0 row0 cs0 m0 c0 g0 => ?_)
      refine ⟨_, rfl, ?_⟩
      refine OS.read rfl (e_loadm m0 c0 rfl rfl (part_one rfl g0)) rfl ?_
      refine OS.pure rfl (e_is (fun _ => rfl) (congrArg Value.bool he)) rfl ?_
      refine OS.pure rfl (fun _ => rfl) rfl ?_
      refine OS.nil ?_
      repeat refine LS.seq ?_
      refine LS.region rfl ?_
      refine OS.pure rfl (fun _ => rfl) rfl ?_
      refine OS.pure rfl (fun _ => rfl) rfl ?_
      refine OS.pure rfl (fun _ => rfl) rfl ?_
      refine OS.pure rfl (fun _ => rfl) rfl ?_
      refine OS.read rfl (e_load 0 rfl rfl rfl rfl rfl) rfl ?_
      refine OS.cutT (l := 1) (u := (c :: bs).length) (fun p hp => List.mem_cons_of_mem _ (hT p hp)) hv rfl rfl rfl rfl rfl rfl rfl rfl rfl (by omega) (by simp) (fun v' hv' => ?_)
      rw [List.take_of_length_le (by simp)] at hv'
      have hone := OV.one hv'
      refine ⟨_, rfl, ?_⟩
      refine OS.pure rfl (fun _ => rfl) rfl ?_
      refine OS.pure rfl (fun _ => rfl) rfl ?_
      refine OS.write rfl (e_store 0 (n := 1) (cs' := [v', .bool false]) rfl rfl rfl rfl rfl (by rw [hone.1, hone.2]; rfl) (by rw [hone.2]; rfl) rfl) rfl ?_
      refine OS.nil ?_
      rw [hfa, tk_some (show (1 : Nat) ≠ 0 by decide)]
      repeat refine LS.seq ?_
      refine LS.region rfl ?_
      refine OS.pure rfl (fun _ => rfl) rfl ?_
      refine OS.pure rfl (fun _ => rfl) rfl ?_
      refine OS.nil ?_
      refine LS.ret ⟨_, fun _ _ => rfl, ?_⟩
      exact ⟨rfl, v', rfl, hv'⟩

theorem rNewReader_ct {L : RL} {b : Value} {n : Nat} {bs : List UInt8} (hb : SV 1 L b n (byteCells bs)) (hn : n ≤ 400000000000) :
    CS Try.prog 13 [b] L fun v L' => ∃ r X, v = .pointer (some ⟨r, 0, none⟩) ∧ RRR X (X ++ L) r (bs, false) L' := by
  have hl : bs.length = n := by have := hb.len; simpa [byteCells] using this
  refine CS.mk (fn := Try.f13) rfl rfl rfl rfl ?_
  repeat refine LS.seq ?_
  refine LS.region rfl ?_
  refine OS.pure rfl (fun _ => rfl) rfl ?_
  refine OS.nil ?_
  repeat refine LS.seq ?_
  refine LS.region rfl ?_
  refine OS.pure rfl (fun _ => rfl) rfl ?_
  refine OS.call noGo rfl (fun _ => rfl) ((behind_ct (s := []) hb hn (by decide)).mono ?_)
  rintro v L' hg
  rcases hg with ⟨rfl, hn0, hcs, rfl⟩ | ⟨rb, rfl, hlc, rfl⟩
  · refine ⟨_, rfl, ?_⟩
    refine OS.pure rfl (fun _ => rfl) rfl ?_
    refine OS.fresh rfl (e_new (fun _ => rfl) rfl) (fun _ => rfl) (fun r => ?_)
    refine OS.pure rfl (fun _ => rfl) rfl ?_
    refine OS.nil ?_
    refine LS.ret ⟨_, fun _ _ => rfl, ?_⟩
    exact ⟨r, [], rfl, _, rfl, .inl ⟨rfl, List.eq_nil_of_length_eq_zero (show bs.length = 0 by simp at hn0; omega)⟩⟩
  · refine ⟨_, rfl, ?_⟩
    refine OS.pure rfl (fun _ => rfl) rfl ?_
    refine OS.fresh rfl (e_new (fun _ => rfl) rfl) (fun _ => rfl) (fun r => ?_)
    refine OS.pure rfl (fun _ => rfl) rfl ?_
    refine OS.nil ?_
    refine LS.ret ⟨_, fun _ _ => rfl, ?_⟩
    rw [List.append_nil] at hlc ⊢
    exact ⟨r, [(rb, .cells 5 (byteCells bs))], rfl, _, rfl, .inr ⟨rb, 0, byteCells bs, by simp [hl], by simp, cut_all (byteCells_len bs)⟩⟩

theorem asked_ct {M : RL} {r : Nat} {bs : List UInt8} {f : Bool} {v : Value} (t : Th) (ht : t.ok) {T : RL} (hT : ∀ p, p ∈ T → p ∈ M) (hv : OV T v bs) (hf : f = true → bs = []) (hn : bs.length ≤ 9223372036854775807) :
    CS Try.prog 15 [t.val, .pointer (some ⟨r, 0, none⟩)] ((r, rrRowOf v f) :: M) fun v' L' => v' = toldV (askS t (bs, f)).1 ∧ RRR T M r (askS t (bs, f)).2 L' := by
  refine CS.less (R := fun v' L' => v' = toldV (askS t (bs, f)).1 ∧ ∃ r4 c4 r0 c0, RRR T ((r4, .cells 36 c4) :: (r0, .cells 28 c0) :: M) r (askS t (bs, f)).2 L') ?_ ?_
  rotate_left
  · rintro v' L' ⟨rfl, r4, c4, r0, c0, v2, rfl, hr⟩
    exact ⟨_, Sub.two, rfl, v2, rfl, hr⟩
  obtain ⟨k, m, s⟩ := t
  obtain ⟨h0, h1, _⟩ := ht
  simp only at h0 h1
  simp only [Th.val, askS]
  have hne : ∀ j : Nat, j < 256 → k ≠ UInt8.ofNat j → ieqB (k.toNat : Int) j = false := fun j hj hne => by
    rw [ieqB_eq]
    have : k.toNat ≠ j := fun hh => hne (by rw [← hh]; simp)
    simpa using (show ¬ ((k.toNat : Int) = j) by omega)
  refine CS.mk (fn := Try.f15) rfl rfl rfl rfl ?_
  repeat refine LS.seq ?_
  refine LS.region rfl ?_
  refine OS.fresh rfl (e_new (fun _ => rfl) rfl) (fun _ => rfl) (fun r0 => ?_)
  refine OS.fresh rfl (e_new (fun _ => rfl) rfl) (fun _ => rfl) (fun r4 => ?_)
  refine OS.nil ?_
  repeat refine LS.seq ?_
  refine LS.region rfl ?_
  refine OS.pure rfl (fun _ => rfl) rfl ?_
  refine OS.read rfl (e_load 1 rfl rfl rfl rfl rfl) rfl ?_
  refine OS.nil ?_
  repeat refine LS.seq ?_
  refine LS.block ?_
  by_cases hk0 : k = 0
  · subst hk0
    repeat refine LS.seq ?_
    refine LS.region rfl ?_
    refine OS.pure rfl (fun _ => rfl) rfl ?_
    refine OS.pure rfl (fun _ => rfl) rfl ?_
    refine OS.nil ?_
    refine LS.cond rfl (fun h => ?_) (fun h => by cases h)
    repeat refine LS.seq ?_
    refine LS.region rfl ?_
    refine OS.pure rfl (fun _ => rfl) rfl ?_
    refine OS.sub (Sub.pulls [2] rfl) ?_
    refine OS.call noGo rfl (fun _ => rfl) ((rNum_ct (fun p hp => List.mem_cons_of_mem _ (List.mem_cons_of_mem _ (hT p hp))) hv hf hn).mono ?_)
    rintro v' L' ⟨rfl, v2, rfl, hr⟩
    refine ⟨_, rfl, ?_⟩
    refine OS.pure rfl (fun _ => rfl) rfl ?_
    refine OS.write rfl (e_store 1 rfl rfl rfl rfl rfl rfl rfl rfl) rfl ?_
    refine OS.nil ?_
    refine LS.ret ⟨_, res_cell 1 rfl rfl rfl rfl, ?_⟩
    rw [if_pos rfl]
    exact ⟨rfl, r4, _, r0, _, v2, rfl, hr⟩
  repeat refine LS.seq ?_
  refine LS.region rfl ?_
  refine OS.pure rfl (e_is (fun _ => rfl) (congrArg Value.bool (hne 0 (by omega) hk0))) rfl ?_
  refine OS.pure rfl (fun _ => rfl) rfl ?_
  refine OS.nil ?_
  refine LS.cond rfl (fun h => by cases h) (fun h => ?_)
  rw [if_neg hk0]
  by_cases hk1 : k = 1
  · subst hk1
    repeat refine LS.seq ?_
    refine LS.region rfl ?_
    refine OS.pure rfl (fun _ => rfl) rfl ?_
    refine OS.pure rfl (fun _ => rfl) rfl ?_
    refine OS.nil ?_
    refine LS.cond rfl (fun h => ?_) (fun h => by cases h)
    repeat refine LS.seq ?_
    refine LS.region rfl ?_
    refine OS.pure rfl (fun _ => rfl) rfl ?_
    refine OS.pure rfl (fun _ => rfl) rfl ?_
    refine OS.read rfl (e_load 1 rfl rfl rfl rfl rfl) rfl ?_
    refine OS.sub (Sub.pulls [2] rfl) ?_
    refine OS.call noGo rfl (fun _ => rfl) ((rCountT_ct (most := m) h0 h1 (fun p hp => List.mem_cons_of_mem _ (List.mem_cons_of_mem _ (hT p hp))) hv hf hn).mono ?_)
    rintro v' L' ⟨rfl, v2, rfl, hr⟩
    refine ⟨_, rfl, ?_⟩
    refine OS.pure rfl (fun _ => rfl) rfl ?_
    refine OS.write rfl (e_store 1 rfl rfl rfl rfl rfl rfl rfl rfl) rfl ?_
    refine OS.nil ?_
    refine LS.ret ⟨_, res_cell 1 rfl rfl rfl rfl, ?_⟩
    rw [if_pos rfl]
    exact ⟨rfl, r4, _, r0, _, v2, rfl, hr⟩
  repeat refine LS.seq ?_
  refine LS.region rfl ?_
  refine OS.pure rfl (e_is (fun _ => rfl) (congrArg Value.bool (hne 1 (by omega) hk1))) rfl ?_
  refine OS.pure rfl (fun _ => rfl) rfl ?_
  refine OS.nil ?_
  refine LS.cond rfl (fun h => by cases h) (fun h => ?_)
  rw [if_neg hk1]
  by_cases hk2 : k = 2
  · subst hk2
    repeat refine LS.seq ?_
    refine LS.region rfl ?_
    refine OS.pure rfl (fun _ => rfl) rfl ?_
    refine OS.pure rfl (fun _ => rfl) rfl ?_
    refine OS.nil ?_
    refine LS.cond rfl (fun h => ?_) (fun h => by cases h)
    repeat refine LS.seq ?_
    refine LS.region rfl ?_
    refine OS.pure rfl (fun _ => rfl) rfl ?_
    refine OS.pure rfl (fun _ => rfl) rfl ?_
    refine OS.read rfl (e_load 1 rfl rfl rfl rfl rfl) rfl ?_
    refine OS.sub (Sub.pulls [2] rfl) ?_
    refine OS.call noGo rfl (fun _ => rfl) ((rStrT_ct (most := m) h0 h1 (fun p hp => List.mem_cons_of_mem _ (List.mem_cons_of_mem _ (hT p hp))) hv hf hn).mono ?_)
    rintro v' L' ⟨rfl, v2, rfl, hr⟩
    refine ⟨_, rfl, ?_⟩
    refine OS.pure rfl (fun _ => rfl) rfl ?_
    refine OS.write rfl (e_store 1 rfl rfl rfl rfl rfl rfl rfl rfl) rfl ?_
    refine OS.nil ?_
    refine LS.ret ⟨_, res_cell 1 rfl rfl rfl rfl, ?_⟩
    rw [if_pos rfl]
    exact ⟨rfl, r4, _, r0, _, v2, rfl, hr⟩
  repeat refine LS.seq ?_
  refine LS.region rfl ?_
  refine OS.pure rfl (e_is (fun _ => rfl) (congrArg Value.bool (hne 2 (by omega) hk2))) rfl ?_
  refine OS.pure rfl (fun _ => rfl) rfl ?_
  refine OS.nil ?_
  refine LS.cond rfl (fun h => by cases h) (fun h => ?_)
  rw [if_neg hk2]
  refine LS.skip ?_
  repeat refine LS.seq ?_
  refine LS.region rfl ?_
  refine OS.pure rfl (fun _ => rfl) rfl ?_
  refine OS.sub (Sub.pulls [2] rfl) ?_
  refine OS.call noGo rfl (fun _ => rfl) ((rFlag_ct (fun p hp => List.mem_cons_of_mem _ (List.mem_cons_of_mem _ (hT p hp))) hv hf hn).mono ?_)
  rintro v' L' ⟨rfl, v2, rfl, hr⟩
  refine ⟨_, rfl, ?_⟩
  refine OS.call noGo rfl (fun _ => rfl) ((one_ct _).mono ?_)
  rintro v' L' ⟨rfl, rfl⟩
  refine ⟨_, rfl, ?_⟩
  refine OS.pure rfl (fun _ => rfl) rfl ?_
  refine OS.write rfl (e_store 1 rfl rfl rfl rfl rfl rfl rfl rfl) rfl ?_
  refine OS.nil ?_
  refine LS.ret ⟨_, res_cell 1 rfl rfl rfl rfl, ?_⟩
  exact ⟨rfl, r4, _, r0, _, v2, rfl, hr⟩
end Go.Proofs.Ytnfenpkkhkdkhaa.T
