/- Layer 4: JournalPlays. -/
import Derived.Test.YthfgjedcmhllfaaJv
namespace Go.Am
theorem ODS.sliceSV {P : Program} {o : Oper} {a : Slots} {x : Operand} {t : TypeId} {L : RL} {ops : List Oper} {ms : List Nat} {sched : List (Nat × Bool)} {dn : Dn} {q : Nat} {K : Slots → RL → Prop} {e : TypeId} {lo hi : Option Operand} {lo' hi' : Option Value} {v : Value} {sz n l u : Nat} {cs : List Value} (hs : SV sz L v n cs)
    (hn : ∀ r off cap, v = .slice (some ⟨r, off, none⟩) n cap → cap < openCap ∧ n ≤ cap) (hq : ops[q]? = some o) (hw : wantedB ops o a = true) (ho : o.op = .slice t x lo hi none) (hx : aev a x = some v)
    (hlo : optEv a lo = some lo') (hhi : optEv a hi = some hi') (bl : boundB lo' 0 = some l) (bu : boundB hi' n = some u) (ht : P.underlying t = some (.slice e)) (hz : sizeB P e = some sz) (hu : u ≤ n) (hl : l ≤ u)
    (hk : ∀ v', SV sz L v' (u - l) ((cs.drop (l * sz)).take ((u - l) * sz)) → ∃ a₁, putAt a o.dst v' = some a₁ ∧ ODS P ops ms K sched ((q, a, v') :: dn) a₁ L) : ODS P ops ms K ((q, false) :: sched) dn a L := by
  obtain ⟨v', h1, h2⟩ := e_sliceSV hs (fun r off cap row cs₀ h _ _ => .inl (hn r off cap h)) ho hx hlo hhi bl bu ht hz hu hl
  obtain ⟨a₁, ep, k⟩ := hk v' h1
  exact ODS.read hq hw h2 ep k
theorem ints_one : ∀ (zs : List Int), allOne (zs.map fun z => Value.int .i64 z) = true
  | [] => rfl
  | z :: zs => by simpa [allOne, oneB] using ints_one zs
theorem eqp_self (r : Nat) : (Nat.beq r r && Nat.beq 0 0) = true := by rw [beq_true rfl]; rfl
theorem e_nep {P : Program} {o : Oper} {a : Slots} {x y : Operand} {t z el : TypeId} {r n : Nat} (ho : o.op = .binOp .neq t x y z) (hx : aev a x = some (.pointer (some ⟨r, 0, none⟩))) (hy : aev a y = some (.pointer (some ⟨r, 0, none⟩))) (ht : P.underlying t = some (.pointer el)) (hz : sizeB P el = some n) :
    ∀ h, opB P a o h = some (.val (.bool false) h) := by
  intro h
  have e : eqB P 100 t (.pointer (some ⟨r, 0, none⟩)) (.pointer (some ⟨r, 0, none⟩)) = some true := by
    unfold eqB
    simp only [ht, hz, eqp_self]
  simp only [opB, ho, hx, hy, eqOk, binB, e, ret, if_true]
  rfl
end Go.Am
namespace Go.Proofs.Ythfgjedcmhllfaa
open Go.Am
set_option linter.unusedVariables false
set_option maxRecDepth 20000

theorem ckOf.eq {n : Nat} {ps : List (Int × List UInt8)} {c c' : Int} (h : ckOf n ps c) (h' : ckOf n ps c') : c = c' := by
  rcases h with ⟨a, b⟩ | ⟨a, b, d⟩ | ⟨a, b, d⟩ <;> rcases h' with ⟨a', b'⟩ | ⟨a', b', d'⟩ | ⟨a', b', d'⟩ <;> first | omega | exact absurd b b' | exact absurd b' b
theorem do_any_step {s : Dk} {f g : F04} {nam : List Int} {ps : List (Int × List UInt8)} (hst : StA s f ∨ StD s f g nam) (hw : s.wr ≤ 800000) (hnam : ∀ p ∈ ps, p.1 ∈ nam) : ∃ e s', doD s ps = (e, s') ∧ s'.n = s.n ∧ s.wr ≤ s'.wr ∧ s'.wr ≤ s.wr + 400 ∧
    ((s.dead = true ∧ e = 20 ∧ s' = s ∧ StD s f g nam) ∨ (s.dead = false ∧ e = 20 ∧ ckOf s.n ps 0 ∧ StD s' f (behind f ps) nam) ∨ (s.dead = false ∧ e ≠ 0 ∧ e ≠ 20 ∧ ckOf s.n ps e ∧ StA s' f) ∨
      (s.dead = false ∧ e = 0 ∧ ckOf s.n ps 0 ∧ StA s' (behind f ps) ∧ s'.wr ≤ s.wr + (2 * ps.length + 2) ∧ (ps = [] → s'.wr = s.wr))) := by
  rcases hst with h | h
  · obtain ⟨e, s', h1, h2, h3, h4, h5⟩ := do_step (ps := ps) h hw
    refine ⟨e, s', h1, h2, h3, h4, ?_⟩
    rcases h5 with ⟨a, rfl, rfl⟩ | ⟨a, b, rfl, rfl⟩ | ⟨a, b, rfl, c⟩ | ⟨a, b, rfl, c⟩
    · exact .inr (.inr (.inl ⟨h.live, by decide, by decide, .inl ⟨a, rfl⟩, h⟩))
    · exact .inr (.inr (.inl ⟨h.live, by decide, by decide, .inr (.inr ⟨a, b, rfl⟩), h⟩))
    · exact .inr (.inr (.inr ⟨h.live, rfl, .inr (.inl ⟨a, b, rfl⟩), c⟩))
    · exact .inr (.inl ⟨h.live, rfl, .inr (.inl ⟨a, b, rfl⟩), c nam hnam⟩)
  · exact ⟨20, s, doD_dead h.dead, rfl, Nat.le_refl _, by omega, .inl ⟨h.dead, rfl, rfl, h⟩⟩
theorem raw_any_step {s : Dk} {f g : F04} {nam : List Int} {z : Int} {d : List UInt8} (hst : StA s f ∨ StD s f g nam) (hw : s.wr ≤ 800000) : ∃ e s', rawD s z d = (e, s') ∧ s'.n = s.n ∧ s.wr ≤ s'.wr ∧ s'.wr ≤ s.wr + 400 ∧
    ((e = 20 ∧ s'.dead = true ∧ StD s' f g nam ∧ (s.dead = true → s' = s)) ∨ (s.dead = false ∧ e = 1 ∧ ckOf s.n [(z, d)] 1 ∧ StA s' f) ∨ (s.dead = false ∧ e = 0 ∧ ckOf s.n [(z, d)] 0 ∧ StA s' (behind f [(z, d)]))) := by
  rcases hst with h | h
  · obtain ⟨e, s', h1, h2, h3, h4, h5⟩ := raw_step (b := z) (d := d) h hw
    refine ⟨e, s', h1, h2, h3, h4, ?_⟩
    rcases h5 with ⟨a, rfl, rfl⟩ | ⟨a, rfl, c⟩ | ⟨a, rfl, c⟩
    · exact .inr (.inl ⟨h.live, rfl, .inr (.inr ⟨by simp, a, rfl⟩), h⟩)
    · exact .inr (.inr ⟨h.live, rfl, .inr (.inl ⟨by simp, a, rfl⟩), c⟩)
    · exact .inl ⟨rfl, (c g nam).dead, c g nam, fun hd => by rw [h.live] at hd; cases hd⟩
  · exact ⟨20, s, by unfold rawD; rw [if_pos h.dead], rfl, Nat.le_refl _, by omega, .inl ⟨rfl, h.dead, h, fun _ => rfl⟩⟩
section
variable {F : RL} {rj rdj rd rb : Nat} {s : Dk}
theorem jDo_eq {l : Value} {n : Nat} {gs : List Gw} {ps : List (Int × List UInt8)} {e : Int} {s' : Dk} (hb : bd gs = ps) (he : doD s ps = (e, s')) (hj : JS F rdj rd s) (hs : s.ok) (hw : s.wr ≤ 800000) (hl : SV 2 F l n (gcells gs)) (hr : Reads F gs) :
    CS Try.prog 33 [ptr rj, l] (jq rj rdj rd rb s F) fun v L' => v = .int .i64 e ∧ L' = jq rj rdj rd rb s' F := by
  have := jDo_any (rj := rj) (rb := rb) hj hs hw hl hr
  rw [hb, he] at this
  exact this
theorem jRaw_eq {b : Value} {m : Nat} {bs : List UInt8} {i e : Int} {s' : Dk} (he : rawD s i bs = (e, s')) (hj : JS F rdj rd s) (hs : s.ok) (hb : SV 1 F b m (byteCells bs)) :
    CS Try.prog 36 [ptr rj, .int .i64 i, b] (jq rj rdj rd rb s F) fun v L' => v = .int .i64 e ∧ L' = jq rj rdj rd rb s' F := by
  have := jRaw_any (rj := rj) (rb := rb) hj hs i hb
  rw [he] at this
  exact this
theorem jDead_b {b : Bool} (hb : s.dead = b) : CS Try.prog 17 [ptr rd] (jq rj rdj rd rb s F) fun v L' => v = .bool b ∧ L' = jq rj rdj rd rb s F := by
  subst hb; exact jDead_q
end
theorem jCut_dead {F : RL} {rj rdj rd rb : Nat} {s : Dk} (hd : s.dead = true) (m : Value) : CS Try.prog 16 [ptr rd, m] (jq rj rdj rd rb s F) fun v L' => v = .int .i64 20 ∧ L' = jq rj rdj rd rb s F := by
  have hp : Sub (dk rd rb s ((rj, .cells 93 [ptr rdj]) :: F)) (jq rj rdj rd rb s F) := Sub.pulls [2, 2] rfl
  have hq : Sub (jq rj rdj rd rb s F) (dk rd rb s ((rj, .cells 93 [ptr rdj]) :: F)) := Sub.pulls [2] rfl
  exact (CS.sub hp (Cut_dead hd m)).less fun v L' h => ⟨_, by rw [h.2]; exact hq, h.1, rfl⟩
theorem u8_ne {a b : UInt8} (h : a ≠ b) : ieqB ((a.toNat : Nat) : Int) ((b.toNat : Nat) : Int) = false := by
  rw [ieqB_eq]
  simp
  intro h'
  exact h (UInt8.toNat_inj.1 (by omega))
theorem Sub.up3b {W F : RL} {a b c : Nat × ARow} : Sub (a :: b :: c :: (W ++ F)) (W ++ (a :: b :: c :: F)) := Sub.up3 (Z := [])
theorem ne_self (n : Int) : (!ieqB n n) = false := by rw [ieqB_eq]; simp
theorem set_same {Z : RL} {p : Nat} {x : Nat × ARow} (h : Z[p]? = some x) : Z.set p x = Z := by
  obtain ⟨hp, rfl⟩ := List.getElem?_eq_some_iff.1 h
  exact List.set_getElem_self hp
/-- A row of a list is turned. -/
theorem set_q {rj rdj rd rb : Nat} {s : Dk} {Z F : RL} {k : Nat} {x : Nat × ARow} (hk : k < Z.length) : setL (jq rj rdj rd rb s (Z ++ F)) (3 + k) x = some (jq rj rdj rd rb s (Z.set k x ++ F)) := by
  have e : setL (Z ++ F) k x = some (Z.set k x ++ F) := by
    rw [setL_some (by rw [List.length_append]; omega), List.set_append_left _ _ hk]
  rw [show 3 + k = k + 1 + 1 + 1 by omega]
  simp only [setL, e]
theorem ok_of_st {s : Dk} {f g : F04} {nam : List Int} (h : StA s f ∨ StD s f g nam) : s.ok := by rcases h with h | h <;> exact h.ok

set_option maxHeartbeats 8000000 in
theorem plays_ct {L : RL} {n : Int} {vl : Value} {nl : Nat} {ms : List Opm} (hl : SV 5 L vl nl (ms.flatMap Opm.cells)) (hnl : nl ≤ 9223372036854775807)
    (hms : ∀ m ∈ ms, SV 1 L m.v m.zs.length (m.zs.map fun z => .int .i64 z) ∧ m.zs.length ≤ 140737488351232 ∧ (-9223372036854775808 ≤ m.N ∧ m.N ≤ 9223372036854775807) ∧ ∀ r off cap, m.v = .slice (some ⟨r, off, none⟩) m.zs.length cap → cap < openCap ∧ m.zs.length ≤ cap) :
    CS Try.prog 5 [.int .i64 n, vl] L fun v _ => v = .bool true := by
  have hml : ms.length = nl := by have := hl.len; rw [om_len] at this; omega
  by_cases hbad : n < 512 ∨ 32768 < n
  · have hNew : CS Try.prog 10 [.int .i64 n] L fun v L' => v = .tuple #[.pointer none, .int .i64 1] ∧ L' = L := by
      rcases hbad with h | h
      · exact New_small n h
      · exact New_large n h
    refine CS.mk (fn := Try.f5) rfl rfl rfl rfl ?_
    repeat refine LS.seq ?_
    refine LS.region rfl ?_
    refine OS.pure rfl (fun _ => rfl) rfl ?_
    refine OS.nil ?_
    repeat refine LS.seq ?_
    refine LS.region rfl ?_
    refine OS.pure rfl (fun _ => rfl) rfl ?_
    refine OS.call noGo rfl (fun _ => rfl) ((hNew).mono ?_)
    rintro v L' ⟨rfl, rfl⟩
    refine ⟨_, rfl, ?_⟩
    refine OS.pure rfl (fun _ => rfl) rfl ?_
    refine OS.pure rfl (fun _ => rfl) rfl ?_
    refine OS.pure rfl (fun _ => rfl) rfl ?_
    refine OS.pure rfl (fun _ => rfl) rfl ?_
    refine OS.pure rfl (fun _ => rfl) rfl ?_
    refine OS.nil ?_
    repeat refine LS.seq ?_
    refine LS.region rfl ?_
    refine OS.pure rfl (fun _ => rfl) rfl ?_
    refine OS.pure rfl (fun _ => rfl) rfl ?_
    refine OS.nil ?_
    refine LS.cond rfl (fun hc => ?_) (fun hc => by cases hc)
    repeat refine LS.seq ?_
    refine LS.region rfl ?_
    refine OS.pure rfl (fun _ => rfl) rfl ?_
    refine OS.call noGo rfl (fun _ => rfl) ((Open_refused (e := 2) (by decide) (Read_nil _)).mono ?_)
    rintro v L' ⟨rfl, rfl⟩
    refine ⟨_, rfl, ?_⟩
    refine OS.pure rfl (fun _ => rfl) rfl ?_
    refine OS.pure rfl (fun _ => rfl) rfl ?_
    refine OS.pure rfl (fun _ => rfl) rfl ?_
    refine OS.pure rfl (fun _ => rfl) rfl ?_
    refine OS.pure rfl (fun _ => rfl) rfl ?_
    refine OS.nil ?_
    repeat refine LS.seq ?_
    refine LS.region rfl ?_
    refine OS.pure rfl (fun _ => rfl) rfl ?_
    refine OS.pure rfl (fun _ => rfl) rfl ?_
    refine OS.pure rfl (fun _ => rfl) rfl ?_
    refine OS.call noGo rfl (fun _ => rfl) ((awake_ct).mono ?_)
    rintro v L' ⟨rfl, rfl⟩
    refine ⟨_, rfl, ?_⟩
    refine OS.pure rfl (fun _ => rfl) rfl ?_
    refine OS.pure rfl (fun _ => rfl) rfl ?_
    refine OS.nil ?_
    refine LS.ret ⟨_, fun _ _ => rfl, ?_⟩
    rfl
  obtain ⟨nn, rfl⟩ := Int.eq_ofNat_of_zero_le (show 0 ≤ n by omega)
  have hn0 : 512 ≤ nn := by omega
  have hn1 : nn ≤ 32768 := by omega
  refine CS.mk (fn := Try.f5) rfl rfl rfl rfl ?_
  repeat refine LS.seq ?_
  refine LS.region rfl ?_
  refine OS.pure rfl (fun _ => rfl) rfl ?_
  refine OS.nil ?_
  repeat refine LS.seq ?_
  refine LS.region rfl ?_
  refine OS.pure rfl (fun _ => rfl) rfl ?_
  refine OS.call noGo rfl (fun _ => rfl) ((New_ct nn hn0 hn1).mono ?_)
  rintro v L' ⟨rd, rb, rfl, rfl⟩
  have hD : (List.replicate (nn * 256) (0 : UInt8)).length = nn * 256 := List.length_replicate
  have hz : ∀ j, j < nn → blk (List.replicate (nn * 256) (0 : UInt8)) j = zeros := fun j hj => blk_zeros hj
  generalize List.replicate (nn * 256) (0 : UInt8) = D at hD hz
  refine ⟨_, rfl, ?_⟩
  refine OS.pure rfl (fun _ => rfl) rfl ?_
  refine OS.pure rfl (fun _ => rfl) rfl ?_
  refine OS.pure rfl (fun _ => rfl) rfl ?_
  refine OS.pure rfl (fun _ => rfl) rfl ?_
  refine OS.pure rfl (fun _ => rfl) rfl ?_
  refine OS.nil ?_
  repeat refine LS.seq ?_
  refine LS.region rfl ?_
  refine OS.pure rfl (fun _ => rfl) rfl ?_
  refine OS.pure rfl (fun _ => rfl) rfl ?_
  refine OS.nil ?_
  refine LS.cond rfl (fun hc => by cases hc) (fun hc => ?_)
  refine LS.skip ?_
  have o0 : Dk.ok ⟨nn, D, 0, false, 0, false⟩ := ok_of hD hn0 hn1 (by decide) (by decide)
  repeat refine LS.seq ?_
  refine LS.region rfl ?_
  refine OS.pure rfl (fun _ => rfl) rfl ?_
  refine OS.nil ?_
  repeat refine LS.seq ?_
  refine LS.region rfl ?_
  refine OS.pure rfl (fun _ => rfl) rfl ?_
  refine OS.nil ?_
  have hl2 : SV 5 (dk rd rb ⟨nn, D, 0, false, 0, false⟩ L) vl nl (ms.flatMap Opm.cells) := hl.cons.cons
  have hms2 : ∀ m ∈ ms, SV 1 (dk rd rb ⟨nn, D, 0, false, 0, false⟩ L) m.v m.zs.length (m.zs.map fun z => .int .i64 z) := fun m hm => (hms m hm).1.cons.cons
  have hcl : ∀ k, cntL ms k ≤ k * 140737488351232 := fun k => cntL_le fun m hm => (hms m hm).2.1
  repeat refine LS.seq ?_
  refine LS.mid [0, 1, 4, 5, 9] (fun a L2 => L2 = dk rd rb ⟨nn, D, 0, false, 0, false⟩ L ∧ ∃ c : Nat, c ≤ 20000000000000000 ∧ (nl ≤ 60 → c = cntL ms nl) ∧ a = [.int .i64 (nn : Nat), vl, .chan none, .chan none, .bool false, ptr rd, .chan none, .chan none, .chan none, .int .i64 (c : Nat), .chan none, .chan none, .chan none, .chan none, .chan none, .chan none, .chan none, .chan none, .chan none, .chan none, .chan none, .chan none, .chan none, .chan none, .chan none, .chan none, .chan none, .chan none, .chan none, .chan none, .chan none, .chan none, .chan none, .chan none, .chan none, .chan none, .chan none, .chan none, .chan none, .chan none, .chan none, .chan none, .chan none, .chan none, .chan none, .chan none, .chan none, .chan none, .chan none, .chan none, .chan none, .chan none, .chan none, .chan none, .chan none, .chan none, .chan none, .chan none, .chan none, .chan none, .chan none, .chan none, .chan none, .chan none, .chan none, .chan none, .chan none, .chan none, .chan none, .chan none, .chan none, .chan none, .chan none, .chan none, .chan none, .chan none, .chan none, .chan none, .chan none, .chan none, .chan none, .chan none, .chan none, .chan none, .chan none, .chan none, .chan none, .chan none, .chan none, .chan none, .chan none, .chan none, .chan none, .chan none, .chan none, .chan none, .chan none, .chan none, .chan none, .chan none, .chan none, .chan none, .chan none, .chan none, .chan none, .chan none, .chan none, .chan none, .chan none, .chan none, .chan none, .chan none, .chan none, .chan none, .chan none, .chan none, .chan none, .chan none, .chan none, .chan none, .chan none, .chan none, .chan none, .chan none, .chan none, .chan none, .chan none, .chan none, .chan none, .chan none, .chan none, .chan none, .chan none, .chan none, .chan none, .chan none, .chan none, .chan none, .chan none, .chan none, .chan none, .chan none, .chan none, .chan none, .chan none, .chan none, .chan none, .chan none, .chan none, .chan none, .chan none, .chan none, .chan none, .chan none, .chan none, .chan none, .chan none, .chan none, .chan none, .chan none, .chan none, .chan none, .chan none, .chan none, .chan none, .chan none, .chan none, .chan none, .chan none, .chan none, .chan none, .chan none, .chan none, .chan none, .chan none, .chan none, .chan none, .chan none, .chan none, .chan none, .chan none, .chan none, .chan none, .chan none, .chan none, .chan none, .chan none, .chan none, .chan none, .chan none, .chan none, .chan none, .chan none, .chan none, .chan none, .chan none, .chan none, .chan none, .chan none, .chan none, .chan none, .chan none, .chan none, .chan none, .chan none, .chan none, .chan none, .chan none, .chan none, .chan none, .chan none, .chan none, .chan none, .chan none, .chan none, .chan none, .chan none, .chan none, .chan none, .chan none, .chan none, .chan none, .chan none, .chan none, .chan none, .chan none, .chan none, .chan none, .chan none, .chan none, .chan none, .chan none, .chan none, .chan none, .chan none, .chan none, .chan none, .chan none, .chan none, .chan none, .chan none, .chan none, .chan none, .chan none, .chan none, .chan none, .chan none, .chan none, .chan none, .chan none, .chan none, .chan none, .chan none, .chan none, .chan none, .chan none, .chan none, .chan none, .chan none, .chan none, .chan none, .chan none, .chan none, .chan none, .chan none, .chan none, .chan none, .chan none, .chan none, .chan none, .chan none, .chan none, .chan none, .chan none, .chan none, .chan none, .chan none, .chan none, .chan none, .chan none, .chan none, .chan none, .chan none, .chan none, .chan none, .chan none, .chan none, .chan none, .chan none, .chan none, .chan none, .chan none, .chan none, .chan none, .chan none, .chan none, .chan none, .chan none, .chan none, .chan none, .chan none, .chan none, .chan none, .chan none, .chan none, .chan none, .chan none, .chan none, .chan none, .chan none, .chan none, .chan none, .chan none, .chan none, .chan none, .chan none, .chan none, .chan none, .chan none, .chan none, .chan none, .chan none, .chan none, .chan none, .chan none, .chan none, .chan none, .chan none, .chan none, .chan none, .chan none, .chan none, .chan none, .chan none, .chan none, .chan none, .chan none, .chan none, .chan none, .chan none, .chan none, .chan none, .chan none, .chan none, .chan none, .chan none, .chan none, .chan none, .chan none, .chan none, .chan none, .chan none, .chan none, .chan none, .chan none, .chan none, .chan none, .chan none, .chan none, .chan none, .chan none, .chan none, .chan none, .chan none, .chan none, .chan none, .chan none, .chan none, .chan none, .chan none, .chan none, .chan none, .chan none, .chan none, .chan none, .chan none, .chan none, .chan none, .chan none, .chan none, .chan none, .chan none, .chan none, .chan none, .chan none, .chan none, .chan none, .chan none, .chan none, .chan none, .chan none, .chan none, .chan none, .chan none, .chan none, .chan none, .chan none, .chan none, .chan none, .chan none, .chan none, .chan none, .chan none, .chan none]) ?_ ?_
  · repeat refine LS.seq ?_
    refine LS.block ?_
    refine LS.loopJ [0, 1, 4, 5, 9, 10] (fun q a L' => ∃ i, q = nl - i ∧ i ≤ nl ∧ i ≤ 100 ∧ L' = dk rd rb ⟨nn, D, 0, false, 0, false⟩ L ∧
      a = [.int .i64 (nn : Nat), vl, .chan none, .chan none, .bool false, ptr rd, .chan none, .chan none, .chan none, .int .i64 (cntL ms i : Nat), .int .i64 (i : Nat), .chan none, .chan none, .chan none, .chan none, .chan none, .chan none, .chan none, .chan none, .chan none, .chan none, .chan none, .chan none, .chan none, .chan none, .chan none, .chan none, .chan none, .chan none, .chan none, .chan none, .chan none, .chan none, .chan none, .chan none, .chan none, .chan none, .chan none, .chan none, .chan none, .chan none, .chan none, .chan none, .chan none, .chan none, .chan none, .chan none, .chan none, .chan none, .chan none, .chan none, .chan none, .chan none, .chan none, .chan none, .chan none, .chan none, .chan none, .chan none, .chan none, .chan none, .chan none, .chan none, .chan none, .chan none, .chan none, .chan none, .chan none, .chan none, .chan none, .chan none, .chan none, .chan none, .chan none, .chan none, .chan none, .chan none, .chan none, .chan none, .chan none, .chan none, .chan none, .chan none, .chan none, .chan none, .chan none, .chan none, .chan none, .chan none, .chan none, .chan none, .chan none, .chan none, .chan none, .chan none, .chan none, .chan none, .chan none, .chan none, .chan none, .chan none, .chan none, .chan none, .chan none, .chan none, .chan none, .chan none, .chan none, .chan none, .chan none, .chan none, .chan none, .chan none, .chan none, .chan none, .chan none, .chan none, .chan none, .chan none, .chan none, .chan none, .chan none, .chan none, .chan none, .chan none, .chan none, .chan none, .chan none, .chan none, .chan none, .chan none, .chan none, .chan none, .chan none, .chan none, .chan none, .chan none, .chan none, .chan none, .chan none, .chan none, .chan none, .chan none, .chan none, .chan none, .chan none, .chan none, .chan none, .chan none, .chan none, .chan none, .chan none, .chan none, .chan none, .chan none, .chan none, .chan none, .chan none, .chan none, .chan none, .chan none, .chan none, .chan none, .chan none, .chan none, .chan none, .chan none, .chan none, .chan none, .chan none, .chan none, .chan none, .chan none, .chan none, .chan none, .chan none, .chan none, .chan none, .chan none, .chan none, .chan none, .chan none, .chan none, .chan none, .chan none, .chan none, .chan none, .chan none, .chan none, .chan none, .chan none, .chan none, .chan none, .chan none, .chan none, .chan none, .chan none, .chan none, .chan none, .chan none, .chan none, .chan none, .chan none, .chan none, .chan none, .chan none, .chan none, .chan none, .chan none, .chan none, .chan none, .chan none, .chan none, .chan none, .chan none, .chan none, .chan none, .chan none, .chan none, .chan none, .chan none, .chan none, .chan none, .chan none, .chan none, .chan none, .chan none, .chan none, .chan none, .chan none, .chan none, .chan none, .chan none, .chan none, .chan none, .chan none, .chan none, .chan none, .chan none, .chan none, .chan none, .chan none, .chan none, .chan none, .chan none, .chan none, .chan none, .chan none, .chan none, .chan none, .chan none, .chan none, .chan none, .chan none, .chan none, .chan none, .chan none, .chan none, .chan none, .chan none, .chan none, .chan none, .chan none, .chan none, .chan none, .chan none, .chan none, .chan none, .chan none, .chan none, .chan none, .chan none, .chan none, .chan none, .chan none, .chan none, .chan none, .chan none, .chan none, .chan none, .chan none, .chan none, .chan none, .chan none, .chan none, .chan none, .chan none, .chan none, .chan none, .chan none, .chan none, .chan none, .chan none, .chan none, .chan none, .chan none, .chan none, .chan none, .chan none, .chan none, .chan none, .chan none, .chan none, .chan none, .chan none, .chan none, .chan none, .chan none, .chan none, .chan none, .chan none, .chan none, .chan none, .chan none, .chan none, .chan none, .chan none, .chan none, .chan none, .chan none, .chan none, .chan none, .chan none, .chan none, .chan none, .chan none, .chan none, .chan none, .chan none, .chan none, .chan none, .chan none, .chan none, .chan none, .chan none, .chan none, .chan none, .chan none, .chan none, .chan none, .chan none, .chan none, .chan none, .chan none, .chan none, .chan none, .chan none, .chan none, .chan none, .chan none, .chan none, .chan none, .chan none, .chan none, .chan none, .chan none, .chan none, .chan none, .chan none, .chan none, .chan none, .chan none, .chan none, .chan none, .chan none, .chan none, .chan none, .chan none, .chan none, .chan none, .chan none, .chan none, .chan none, .chan none, .chan none, .chan none, .chan none, .chan none, .chan none, .chan none, .chan none, .chan none, .chan none, .chan none, .chan none, .chan none, .chan none, .chan none, .chan none, .chan none, .chan none, .chan none, .chan none, .chan none, .chan none, .chan none, .chan none, .chan none, .chan none, .chan none, .chan none, .chan none, .chan none, .chan none]) (n := nl) rfl ⟨0, rfl, by omega, by omega, rfl, rfl⟩ ?_
    rintro q a L' ⟨i, rfl, hi, hi1, rfl, rfl⟩
    have hci := hcl i
    by_cases hin : i < nl
    case neg =>
      have hq : (!ileB (nl : Int) (i : Nat)) = false := by rw [ileB_eq]; simp; omega
      repeat refine LS.seq ?_
      refine LS.region rfl ?_
      refine OS.pure rfl (fun _ => rfl) rfl ?_
      refine OS.pure rfl (fun _ => rfl) rfl ?_
      refine OS.pure rfl (e_len hl2 rfl rfl rfl rfl rfl) rfl ?_
      refine OS.pure rfl (e_is (fun _ => rfl) (congrArg Value.bool hq)) rfl ?_
      refine OS.pure rfl (fun _ => rfl) rfl ?_
      refine OS.skip rfl rfl ?_
      refine OS.skip rfl rfl ?_
      refine OS.pure rfl (fun _ => rfl) rfl ?_
      refine OS.nil ?_
      repeat refine LS.seq ?_
      refine LS.cond rfl (fun hc => by cases hc) (fun hc => ?_)
      refine LS.exit ?_
      exact ⟨rfl, cntL ms i, by omega, fun _ => by rw [show i = nl by omega], rfl⟩
    have hq : (!ileB (nl : Int) (i : Nat)) = true := by rw [ileB_eq]; simp; omega
    by_cases hi2 : i < 100
    case neg =>
      have hq2 : (!ileB (100 : Int) (i : Nat)) = false := by rw [ileB_eq]; simp; omega
      repeat refine LS.seq ?_
      refine LS.region rfl ?_
      refine OS.pure rfl (fun _ => rfl) rfl ?_
      refine OS.pure rfl (fun _ => rfl) rfl ?_
      refine OS.pure rfl (e_len hl2 rfl rfl rfl rfl rfl) rfl ?_
      refine OS.pure rfl (e_is (fun _ => rfl) (congrArg Value.bool hq)) rfl ?_
      refine OS.pure rfl (fun _ => rfl) rfl ?_
      refine OS.pure rfl (fun _ => rfl) rfl ?_
      refine OS.pure rfl (e_is (fun _ => rfl) (congrArg Value.bool hq2)) rfl ?_
      refine OS.pure rfl (fun _ => rfl) rfl ?_
      refine OS.nil ?_
      repeat refine LS.seq ?_
      refine LS.cond rfl (fun hc => by cases hc) (fun hc => ?_)
      refine LS.exit ?_
      exact ⟨rfl, cntL ms i, by omega, fun h => by omega, rfl⟩
    have hq2 : (!ileB (100 : Int) (i : Nat)) = true := by rw [ileB_eq]; simp; omega
    have hm : ms[i]? = some ms[i] := List.getElem?_eq_getElem (by omega)
    have hmm : ms[i] ∈ ms := List.getElem_mem (by omega)
    generalize ms[i] = m at hm hmm
    have hcs := cntL_succ hm
    have hzl := (hms m hmm).2.1
    repeat refine LS.seq ?_
    refine LS.region rfl ?_
    refine OS.pure rfl (fun _ => rfl) rfl ?_
    refine OS.pure rfl (fun _ => rfl) rfl ?_
    refine OS.pure rfl (e_len hl2 rfl rfl rfl rfl rfl) rfl ?_
    refine OS.pure rfl (e_is (fun _ => rfl) (congrArg Value.bool hq)) rfl ?_
    refine OS.pure rfl (fun _ => rfl) rfl ?_
    refine OS.pure rfl (fun _ => rfl) rfl ?_
    refine OS.pure rfl (e_is (fun _ => rfl) (congrArg Value.bool hq2)) rfl ?_
    refine OS.pure rfl (fun _ => rfl) rfl ?_
    refine OS.nil ?_
    repeat refine LS.seq ?_
    refine LS.cond rfl (fun hc => ?_) (fun hc => by cases hc)
    refine LS.skip ?_
    repeat refine LS.seq ?_
    refine LS.block ?_
    repeat refine LS.seq ?_
    refine LS.region rfl ?_
    refine OS.pure rfl (fun _ => rfl) rfl ?_
    refine OS.pure rfl (fun _ => rfl) rfl ?_
    refine OS.pure rfl (fun _ => rfl) rfl ?_
    refine OS.at (j := i) hl2 hin rfl rfl rfl rfl rfl rfl (fun r0 o0 row0 cs0 m0 c0 g0 k0 => ?_)
    refine ⟨_, rfl, ?_⟩
    refine OS.pure rfl (fun _ => rfl) rfl ?_
    refine OS.read rfl (e_loadm m0 c0 rfl rfl (part_one rfl (g0 1 _ (by omega) (om_at ms i 1 m hm (by omega))))) rfl ?_
    refine OS.pure rfl (e_len (hms2 m hmm) rfl rfl rfl rfl rfl) rfl ?_
    refine OS.pure rfl (e_is (e_add (k := .i64) (m := ((cntL ms i : Nat) : Int)) (n := ((m.zs.length : Nat) : Int)) rfl rfl rfl (in_i64 (by omega) (by omega))) (congrArg (Value.int .i64) (show ((cntL ms i : Nat) : Int) + ((m.zs.length : Nat) : Int) = ((cntL ms (i + 1) : Nat) : Int) by omega))) rfl ?_
    refine OS.pure rfl (fun _ => rfl) rfl ?_
    refine OS.nil ?_
    repeat refine LS.seq ?_
    refine LS.region rfl ?_
    refine OS.pure rfl (fun _ => rfl) rfl ?_
    refine OS.pure rfl (e_add rfl rfl rfl (in_i64 (by omega) (by omega))) rfl ?_
    refine OS.pure rfl (fun _ => rfl) rfl ?_
    refine OS.nil ?_
    exact ⟨nl - (i + 1), by omega, i + 1, rfl, by omega, by omega, rfl, rfl⟩
  rintro a L2 ⟨rfl, c, hcb, hcd, rfl⟩
  by_cases hn60 : 60 < nl
  · have hq : (!ileB (nl : Int) 60) = true := by rw [ileB_eq]; simp; omega
    repeat refine LS.seq ?_
    refine LS.region rfl ?_
    refine OS.pure rfl (fun _ => rfl) rfl ?_
    refine OS.pure rfl (e_len hl2 rfl rfl rfl rfl rfl) rfl ?_
    refine OS.pure rfl (e_is (fun _ => rfl) (congrArg Value.bool hq)) rfl ?_
    refine OS.pure rfl (fun _ => rfl) rfl ?_
    refine OS.skip rfl rfl ?_
    refine OS.skip rfl rfl ?_
    refine OS.pure rfl (fun _ => rfl) rfl ?_
    refine OS.nil ?_
    repeat refine LS.seq ?_
    refine LS.cond rfl (fun hc => ?_) (fun hc => by cases hc)
    repeat refine LS.seq ?_
    refine LS.region rfl ?_
    refine OS.call noGo rfl (fun _ => rfl) ((awake_ct).mono ?_)
    rintro v L' ⟨rfl, rfl⟩
    refine ⟨_, rfl, ?_⟩
    refine OS.pure rfl (fun _ => rfl) rfl ?_
    refine OS.nil ?_
    refine LS.ret ⟨_, fun _ _ => rfl, ?_⟩
    rfl
  have hq : (!ileB (nl : Int) 60) = false := by rw [ileB_eq]; simp; omega
  have hcd := hcd (by omega)
  subst hcd
  by_cases hc4 : 400 < cntL ms nl
  · have hq2 : (!ileB ((cntL ms nl : Nat) : Int) 400) = true := by rw [ileB_eq]; simp; omega
    repeat refine LS.seq ?_
    refine LS.region rfl ?_
    refine OS.pure rfl (fun _ => rfl) rfl ?_
    refine OS.pure rfl (e_len hl2 rfl rfl rfl rfl rfl) rfl ?_
    refine OS.pure rfl (e_is (fun _ => rfl) (congrArg Value.bool hq)) rfl ?_
    refine OS.pure rfl (fun _ => rfl) rfl ?_
    refine OS.pure rfl (fun _ => rfl) rfl ?_
    refine OS.pure rfl (e_is (fun _ => rfl) (congrArg Value.bool hq2)) rfl ?_
    refine OS.pure rfl (fun _ => rfl) rfl ?_
    refine OS.nil ?_
    repeat refine LS.seq ?_
    refine LS.cond rfl (fun hc => ?_) (fun hc => by cases hc)
    repeat refine LS.seq ?_
    refine LS.region rfl ?_
    refine OS.call noGo rfl (fun _ => rfl) ((awake_ct).mono ?_)
    rintro v L' ⟨rfl, rfl⟩
    refine ⟨_, rfl, ?_⟩
    refine OS.pure rfl (fun _ => rfl) rfl ?_
    refine OS.nil ?_
    refine LS.ret ⟨_, fun _ _ => rfl, ?_⟩
    rfl
  have hq2 : (!ileB ((cntL ms nl : Nat) : Int) 400) = false := by rw [ileB_eq]; simp; omega
  repeat refine LS.seq ?_
  refine LS.region rfl ?_
  refine OS.pure rfl (fun _ => rfl) rfl ?_
  refine OS.pure rfl (e_len hl2 rfl rfl rfl rfl rfl) rfl ?_
  refine OS.pure rfl (e_is (fun _ => rfl) (congrArg Value.bool hq)) rfl ?_
  refine OS.pure rfl (fun _ => rfl) rfl ?_
  refine OS.pure rfl (fun _ => rfl) rfl ?_
  refine OS.pure rfl (e_is (fun _ => rfl) (congrArg Value.bool hq2)) rfl ?_
  refine OS.pure rfl (fun _ => rfl) rfl ?_
  refine OS.nil ?_
  repeat refine LS.seq ?_
  refine LS.cond rfl (fun hc => by cases hc) (fun hc => ?_)
  refine LS.skip ?_
  have hz4 : ∀ m ∈ ms, m.zs.length ≤ 400 := fun m hm => by have := cntL_mem hm; rw [hml] at this; omega
  have hcl : ∀ k, cntL ms k ≤ k * 400 := fun k => cntL_le hz4
  repeat refine LS.seq ?_
  refine LS.region rfl ?_
  refine OS.pure rfl (fun _ => rfl) rfl ?_
  refine OS.pure rfl (e_sub rfl rfl rfl (in_i64 (by omega) (by omega))) rfl ?_
  refine OS.pure rfl (fun _ => rfl) rfl ?_
  refine OS.fresh rfl (e_new (fun _ => rfl) rfl) (fun _ => rfl) (fun rs => ?_)
  refine OS.pure rfl (fun _ => rfl) rfl ?_
  refine OS.nil ?_
  repeat refine LS.seq ?_
  refine LS.region rfl ?_
  refine OS.pure rfl (fun _ => rfl) rfl ?_
  refine OS.nil ?_
  repeat refine LS.seq ?_
  refine LS.block ?_
  refine LS.loopJ [0, 1, 4, 5, 11, 12] (fun q a L' => ∃ i vn X, q = nl - i ∧ i ≤ nl ∧ NV 3 1 vn (namL nn ms i).length ((namL nn ms i).map fun z => .int .i64 z) X ∧ L' = X ++ dk rd rb ⟨nn, D, 0, false, 0, false⟩ L ∧
    a = [.int .i64 (nn : Nat), vl, .chan none, .chan none, .bool false, ptr rd, .chan none, .chan none, .chan none, .chan none, .chan none, vn, .int .i64 (i : Nat), .chan none, .chan none, .chan none, .chan none, .chan none, .chan none, .chan none, .chan none, .chan none, .chan none, .chan none, .chan none, .chan none, .chan none, .chan none, .chan none, .chan none, .chan none, .chan none, .chan none, .chan none, .chan none, .chan none, .chan none, .chan none, .chan none, .chan none, .chan none, .chan none, .chan none, .chan none, .chan none, .chan none, .chan none, .chan none, .chan none, .chan none, .chan none, .chan none, .chan none, .chan none, .chan none, .chan none, .chan none, .chan none, .chan none, .chan none, .chan none, .chan none, .chan none, .chan none, .chan none, .chan none, .chan none, .chan none, .chan none, .chan none, .chan none, .chan none, .chan none, .chan none, .chan none, .chan none, .chan none, .chan none, .chan none, .chan none, .chan none, .chan none, .chan none, .chan none, .chan none, .chan none, .chan none, .chan none, .chan none, .chan none, .chan none, .chan none, .chan none, .chan none, .chan none, .chan none, .chan none, .chan none, .chan none, .chan none, .chan none, .chan none, .chan none, .chan none, .chan none, .chan none, .chan none, .chan none, .chan none, .chan none, .chan none, .chan none, .chan none, .chan none, .chan none, .chan none, .chan none, .chan none, .chan none, .chan none, .chan none, .chan none, .chan none, .chan none, .chan none, .chan none, .chan none, .chan none, .chan none, .chan none, .chan none, .chan none, .chan none, .chan none, .chan none, .chan none, .chan none, .chan none, .chan none, .chan none, .chan none, .chan none, .chan none, .chan none, .chan none, .chan none, .chan none, .chan none, .chan none, .chan none, .chan none, .chan none, .chan none, .chan none, .chan none, .chan none, .chan none, .chan none, .chan none, .chan none, .chan none, .chan none, .chan none, .chan none, .chan none, .chan none, .chan none, .chan none, .chan none, .chan none, .chan none, .chan none, .chan none, .chan none, .chan none, .chan none, .chan none, .chan none, .chan none, .chan none, .chan none, .chan none, .chan none, .chan none, .chan none, .chan none, .chan none, .chan none, .chan none, .chan none, .chan none, .chan none, .chan none, .chan none, .chan none, .chan none, .chan none, .chan none, .chan none, .chan none, .chan none, .chan none, .chan none, .chan none, .chan none, .chan none, .chan none, .chan none, .chan none, .chan none, .chan none, .chan none, .chan none, .chan none, .chan none, .chan none, .chan none, .chan none, .chan none, .chan none, .chan none, .chan none, .chan none, .chan none, .chan none, .chan none, .chan none, .chan none, .chan none, .chan none, .chan none, .chan none, .chan none, .chan none, .chan none, .chan none, .chan none, .chan none, .chan none, .chan none, .chan none, .chan none, .chan none, .chan none, .chan none, .chan none, .chan none, .chan none, .chan none, .chan none, .chan none, .chan none, .chan none, .chan none, .chan none, .chan none, .chan none, .chan none, .chan none, .chan none, .chan none, .chan none, .chan none, .chan none, .chan none, .chan none, .chan none, .chan none, .chan none, .chan none, .chan none, .chan none, .chan none, .chan none, .chan none, .chan none, .chan none, .chan none, .chan none, .chan none, .chan none, .chan none, .chan none, .chan none, .chan none, .chan none, .chan none, .chan none, .chan none, .chan none, .chan none, .chan none, .chan none, .chan none, .chan none, .chan none, .chan none, .chan none, .chan none, .chan none, .chan none, .chan none, .chan none, .chan none, .chan none, .chan none, .chan none, .chan none, .chan none, .chan none, .chan none, .chan none, .chan none, .chan none, .chan none, .chan none, .chan none, .chan none, .chan none, .chan none, .chan none, .chan none, .chan none, .chan none, .chan none, .chan none, .chan none, .chan none, .chan none, .chan none, .chan none, .chan none, .chan none, .chan none, .chan none, .chan none, .chan none, .chan none, .chan none, .chan none, .chan none, .chan none, .chan none, .chan none, .chan none, .chan none, .chan none, .chan none, .chan none, .chan none, .chan none, .chan none, .chan none, .chan none, .chan none, .chan none, .chan none, .chan none, .chan none, .chan none, .chan none, .chan none, .chan none, .chan none, .chan none, .chan none, .chan none, .chan none, .chan none, .chan none, .chan none, .chan none, .chan none, .chan none, .chan none, .chan none, .chan none, .chan none, .chan none, .chan none, .chan none, .chan none, .chan none, .chan none, .chan none, .chan none, .chan none, .chan none, .chan none, .chan none, .chan none, .chan none, .chan none, .chan none, .chan none, .chan none, .chan none, .chan none, .chan none, .chan none, .chan none, .chan none, .chan none, .chan none]) (n := nl) rfl ⟨0, _, _, rfl, by omega, ⟨rs, .inl rfl, rfl, rfl⟩, rfl, rfl⟩ ?_
  rintro q a L' ⟨i, vn, X, rfl, hi, ⟨r, hvn, hvl, rfl⟩, rfl, rfl⟩
  have hci := hcl i
  have hnle := namL_len (n := nn) (ms := ms) (k := i)
  have hl3 : SV 5 ([(r, .cells 3 ((namL nn ms i).map fun z => .int .i64 z))] ++ dk rd rb ⟨nn, D, 0, false, 0, false⟩ L) vl nl (ms.flatMap Opm.cells) := hl2.cons
  repeat refine LS.seq ?_
  refine LS.region rfl ?_
  refine OS.pure rfl (fun _ => rfl) rfl ?_
  refine OS.pure rfl (fun _ => rfl) rfl ?_
  refine OS.pure rfl (e_len hl3 rfl rfl rfl rfl rfl) rfl ?_
  refine OS.pure rfl (fun _ => rfl) rfl ?_
  refine OS.nil ?_
  repeat refine LS.seq ?_
  refine LS.cond rfl (fun hc => ?_) (fun hc => ?_)
  · have hc : (i : Int) < nl := lt_of hc
    have hin : i < nl := by omega
    have hm : ms[i]? = some ms[i] := List.getElem?_eq_getElem (by omega)
    have hmm : ms[i] ∈ ms := List.getElem_mem (by omega)
    generalize ms[i] = m at hm hmm
    have hns := namL_succ (n := nn) hm
    have hm4 := hz4 m hmm
    have hsv := (hms2 m hmm).cons (x := (r, .cells 3 ((namL nn ms i).map fun z => .int .i64 z)))
    have hns2 : (namL nn ms (i + 1)).map (fun z => Value.int .i64 z) = (namL nn ms i).map (fun z => Value.int .i64 z) ++ m.zs.map (fun z => Value.int .i64 z) := by rw [hns, List.map_append]
    have hns3 : (namL nn ms (i + 1)).length = (namL nn ms i).length + m.zs.length := by rw [hns, List.length_append]
    refine LS.skip ?_
    repeat refine LS.seq ?_
    refine LS.block ?_
    repeat refine LS.seq ?_
    refine LS.region rfl ?_
    refine OS.pure rfl (fun _ => rfl) rfl ?_
    refine OS.pure rfl (fun _ => rfl) rfl ?_
    refine OS.pure rfl (fun _ => rfl) rfl ?_
    refine OS.at (j := i) hl3 hin rfl rfl rfl rfl rfl rfl (fun r0 o0 row0 cs0 m0 c0 g0 k0 => ?_)
    refine ⟨_, rfl, ?_⟩
    refine OS.pure rfl (fun _ => rfl) rfl ?_
    refine OS.read rfl (e_loadm m0 c0 rfl rfl (part_one rfl (g0 1 _ (by omega) (om_at ms i 1 m hm (by omega))))) rfl ?_
    generalize (namL nn ms i).length = ln at *
    rcases hvn with rfl | rfl
    · by_cases h0 : m.zs.length = 0
      · have hsv0 := hsv
        rw [h0] at hsv0
        have hzs : m.zs = [] := List.eq_nil_of_length_eq_zero h0
        refine OS.read rfl (e_appendN hsv0 (show ln < openCap by unfold openCap; omega) rfl rfl rfl) rfl ?_
        refine OS.pure rfl (fun _ => rfl) rfl ?_
        refine OS.nil ?_
        repeat refine LS.seq ?_
        refine LS.region rfl ?_
        refine OS.pure rfl (fun _ => rfl) rfl ?_
        refine OS.pure rfl (e_add rfl rfl rfl (in_i64 (by omega) (by omega))) rfl ?_
        refine OS.pure rfl (fun _ => rfl) rfl ?_
        refine OS.nil ?_
        refine ⟨nl - (i + 1), by omega, i + 1, _, _, rfl, by omega, ⟨r, .inl (by rw [hns3, h0]; rfl), by rw [hns2, hns3, h0, hzs]; simpa using hvl, rfl⟩, ?_, rfl⟩
        rw [hns2, hzs, List.map_nil, List.append_nil]
        try rfl
      · refine OS.fresh rfl (e_appendF (sz := 1) (bts := 8) hsv (by omega) (List.mem_cons_self ..) hvl (show ln < openCap by unfold openCap; omega) (ints_one _) rfl rfl rfl (by omega) (by omega)) (fun _ => rfl) (fun r2 => ?_)
        refine OS.sub (Sub.drop 1 rfl) ?_
        refine OS.pure rfl (fun _ => rfl) rfl ?_
        refine OS.nil ?_
        repeat refine LS.seq ?_
        refine LS.region rfl ?_
        refine OS.pure rfl (fun _ => rfl) rfl ?_
        refine OS.pure rfl (e_add rfl rfl rfl (in_i64 (by omega) (by omega))) rfl ?_
        refine OS.pure rfl (fun _ => rfl) rfl ?_
        refine OS.nil ?_
        refine ⟨nl - (i + 1), by omega, i + 1, _, _, rfl, by omega, ⟨r2, .inr (by rw [hns3]; rfl), by rw [hns2, hns3, List.length_append, hvl]; simp, rfl⟩, ?_, rfl⟩
        rw [hns2]
        rfl
    · refine OS.fresh rfl (e_appendSV 0 (sz := 1) (bts := 8) hsv (ints_one _) rfl rfl rfl (by omega) (by omega) rfl (cut_all hvl) rfl) (fun _ => rfl) (fun r2 => ?_)
      refine OS.pure rfl (fun _ => rfl) rfl ?_
      refine OS.nil ?_
      repeat refine LS.seq ?_
      refine LS.region rfl ?_
      refine OS.pure rfl (fun _ => rfl) rfl ?_
      refine OS.pure rfl (e_add rfl rfl rfl (in_i64 (by omega) (by omega))) rfl ?_
      refine OS.pure rfl (fun _ => rfl) rfl ?_
      refine OS.nil ?_
      refine ⟨nl - (i + 1), by omega, i + 1, _, _, rfl, by omega, ⟨r2, .inr (by rw [hns3]; rfl), by rw [hns2, hns3, List.length_append, hvl]; simp, rfl⟩, ?_, rfl⟩
      rw [hns2]
      rfl
  have hc : (nl : Int) ≤ i := nlt_of hc
  have hin : i = nl := by omega
  subst hin
  obtain ⟨nam, hnam⟩ : ∃ nam, nam = namL nn ms i := ⟨_, rfl⟩
  rw [← hnam] at hvn hvl hnle
  have hall : ∀ m ∈ ms, ∀ z ∈ m.zs, z ∈ nam := fun m hm z hz => by have := namL_mem (n := nn) hm hz; rw [hml] at this; rw [hnam]; exact this
  rw [← hnam]
  have hnaml : nam.length ≤ 1000000 := by omega
  have hvsv : ∀ {F : RL}, SV 1 ((r, .cells 3 (nam.map fun z => .int .i64 z)) :: F) vn nam.length (nam.map fun z => .int .i64 z) := fun {F} => NV.sv (e := 3) (F := F) ⟨r, hvn, hvl, rfl⟩
  clear hl2 hl3 hms2 hnam
  refine LS.exit ?_
  repeat refine LS.seq ?_
  refine LS.region rfl ?_
  refine OS.pure rfl (fun _ => rfl) rfl ?_
  refine OS.sub (Sub.pulls [2, 2] rfl) ?_
  refine OS.call noGo rfl (fun _ => rfl) ((Open_idle o0 rfl (hz 1 (by omega))).mono ?_)
  rintro v L' ⟨rj, Y, rfl, rfl⟩
  refine ⟨_, rfl, ?_⟩
  refine OS.pure rfl (fun _ => rfl) rfl ?_
  refine OS.pure rfl (fun _ => rfl) rfl ?_
  refine OS.pure rfl (fun _ => rfl) rfl ?_
  refine OS.pure rfl (fun _ => rfl) rfl ?_
  refine OS.pure rfl (fun _ => rfl) rfl ?_
  refine OS.nil ?_
  repeat refine LS.seq ?_
  refine LS.region rfl ?_
  refine OS.pure rfl (fun _ => rfl) rfl ?_
  refine OS.pure rfl (fun _ => rfl) rfl ?_
  refine OS.pure rfl (fun _ => rfl) rfl ?_
  refine OS.pure rfl (fun _ => rfl) rfl ?_
  refine OS.call noGo rfl (fun _ => rfl) ((jDisk_ct).mono ?_)
  rintro v L' ⟨rfl, rfl⟩
  refine ⟨_, rfl, ?_⟩
  refine OS.pure rfl (fun _ => rfl) rfl ?_
  refine OS.pure rfl (e_nep rfl rfl rfl rfl rfl) rfl ?_
  refine OS.pure rfl (fun _ => rfl) rfl ?_
  refine OS.nil ?_
  repeat refine LS.seq ?_
  refine LS.cond rfl (fun hc => by cases hc) (fun hc => ?_)
  refine LS.skip ?_
  repeat refine LS.seq ?_
  refine LS.region rfl ?_
  refine OS.pure rfl (fun _ => rfl) rfl ?_
  refine OS.call noGo rfl (fun _ => rfl) ((bNew_ct nn).mono ?_)
  rintro v L' ⟨rx, rm, rfl, rfl⟩
  refine ⟨_, rfl, ?_⟩
  refine OS.sub (Sub.pulls [4, 4, 4] rfl) ?_
  refine OS.pure rfl (fun _ => rfl) rfl ?_
  refine OS.nil ?_
  repeat refine LS.seq ?_
  refine LS.region rfl ?_
  refine OS.pure rfl (fun _ => rfl) rfl ?_
  refine OS.pure rfl (fun _ => rfl) rfl ?_
  refine OS.nil ?_
  repeat refine LS.seq ?_
  refine LS.region rfl ?_
  refine OS.pure rfl (fun _ => rfl) rfl ?_
  refine OS.nil ?_
  obtain ⟨L0, hL0⟩ : ∃ L0 : RL, L0 = (r, .cells 3 (nam.map fun z => .int .i64 z)) :: L := ⟨_, rfl⟩
  have hl0 : SV 5 L0 vl i (ms.flatMap Opm.cells) := by rw [hL0]; exact hl.cons
  have hms0 : ∀ m ∈ ms, SV 1 L0 m.v m.zs.length (m.zs.map fun z => .int .i64 z) := fun m hm => by rw [hL0]; exact (hms m hm).1.cons
  have hvn0 : SV 1 L0 vn nam.length (nam.map fun z => .int .i64 z) := by rw [hL0]; exact hvsv
  repeat refine LS.seq ?_
  refine LS.block ?_
  refine LS.loopJ [1, 4, 5, 11, 13, 14, 15, 16] (fun q a L' => ∃ k, q = i - k ∧ k ≤ i ∧ PI nn vl vn L0 nam k k a L') (n := i) rfl ⟨0, rfl, by omega, rj, rd, rd, rb, ⟨nn, D, 0, false, 0, false⟩, _, rx, rx, fun _ => none, fun _ => none, rfl, ?_, .inl rfl, rfl, by simp, .inl ⟨o0, rfl, hz 1 (by omega), fun j hj => ?_⟩, ⟨rm, [], 0, List.mem_cons_self .., List.mem_cons_of_mem _ (List.mem_cons_self ..), Fm.nil⟩, ⟨rm, [], 0, List.mem_cons_self .., List.mem_cons_of_mem _ (List.mem_cons_self ..), Fm.nil⟩, rfl⟩ ?_
  · intro p hp
    rw [hL0] at hp
    exact List.mem_cons_of_mem _ (List.mem_cons_of_mem _ (List.mem_append_right _ hp))
  · show blk D j = _
    have hj2 : plainP nn j := hj
    rw [hz j (by unfold plainP at hj2; omega)]
    rfl
  clear hz hD o0
  rintro q a L' ⟨k, rfl, hk, rj, rdj, rd, rb, s, F, rx, ry, f, g, rfl, hF, hJS, hsn, hswr, hst, hBf, hBg, rfl⟩
  have hok := ok_of_st hst
  have hi60 : i ≤ 60 := by omega
  have hw8 : s.wr ≤ 800000 := by omega
  have hlF : SV 5 (jq rj rdj rd rb s F) vl i (ms.flatMap Opm.cells) := hl0.mono fun p hp => List.mem_cons_of_mem _ (List.mem_cons_of_mem _ (List.mem_cons_of_mem _ (hF p hp)))
  repeat refine LS.seq ?_
  refine LS.region rfl ?_
  refine OS.pure rfl (fun _ => rfl) rfl ?_
  refine OS.pure rfl (fun _ => rfl) rfl ?_
  refine OS.pure rfl (e_len hlF rfl rfl rfl rfl rfl) rfl ?_
  refine OS.pure rfl (fun _ => rfl) rfl ?_
  refine OS.nil ?_
  repeat refine LS.seq ?_
  refine LS.cond rfl (fun hc => ?_) (fun hc => ?_)
  · have hc : (k : Int) < i := lt_of hc
    have hin : k < i := by omega
    have hm : ms[k]? = some ms[k] := List.getElem?_eq_getElem (by omega)
    have hmm : ms[k] ∈ ms := List.getElem_mem (by omega)
    generalize ms[k] = m at hm hmm
    have hv0 := hms0 m hmm
    have hz40 := hz4 m hmm
    have hN := (hms m hmm).2.2.1
    have hcap := (hms m hmm).2.2.2
    have hall0 := hall m hmm
    obtain ⟨mk, mv, mf, mo, mN, mzs⟩ := m
    simp only at hv0 hz40 hN hall0 hcap
    have hone : oneB mv = true := by
      rcases hv0 with ⟨rfl, _⟩ | ⟨_, _, _, _, _, rfl, _⟩ <;> rfl
    refine LS.skip ?_
    repeat refine LS.seq ?_
    refine LS.block ?_
    repeat refine LS.seq ?_
    refine LS.region rfl ?_
    refine OS.pure rfl (fun _ => rfl) rfl ?_
    refine OS.pure rfl (fun _ => rfl) rfl ?_
    refine OS.at (j := k) hlF hin rfl rfl rfl rfl rfl rfl (fun r0 o0 row0 cs0 m0 c0 g0 k0 => ?_)
    refine ⟨_, rfl, ?_⟩
    refine OS.read rfl (e_loadm m0 c0 rfl rfl (part_agg rfl rfl (k0 _ (om_cut hm)))) rfl ?_
    clear m0 c0 g0 k0
    refine OS.fresh rfl (e_new (fun _ => rfl) rfl) (fun _ => rfl) (fun ro => ?_)
    refine OS.write rfl (e_store 0 (n := 5) rfl rfl rfl rfl rfl (by rcases hv0 with ⟨rfl, _⟩ | ⟨_, _, _, _, _, rfl, _⟩ <;> rfl) rfl rfl) rfl ?_
    refine OS.nil ?_
    repeat refine LS.seq ?_
    refine LS.region rfl ?_
    refine OS.sub (Sub.pulls [3, 3, 3] rfl) ?_
    have hro : (ro, ARow.cells 56 [.int .u8 (mk.toNat : Nat), mv, .int .u8 (mf.toNat : Nat), .bool mo, .int .i64 mN]) ∈ (ro, ARow.cells 56 [.int .u8 (mk.toNat : Nat), mv, .int .u8 (mf.toNat : Nat), .bool mo, .int .i64 mN]) :: F := List.mem_cons_self ..
    have hF1 : ∀ p, p ∈ L0 → p ∈ (ro, ARow.cells 56 [.int .u8 (mk.toNat : Nat), mv, .int .u8 (mf.toNat : Nat), .bool mo, .int .i64 mN]) :: F := fun p hp => List.mem_cons_of_mem _ (hF p hp)
    have hJ1 : JS ((ro, ARow.cells 56 [.int .u8 (mk.toNat : Nat), mv, .int .u8 (mf.toNat : Nat), .bool mo, .int .i64 mN]) :: F) rdj rd s := hJS.mono fun p hp => List.mem_cons_of_mem _ hp
    have hBf1 : BlkAt ((ro, ARow.cells 56 [.int .u8 (mk.toNat : Nat), mv, .int .u8 (mf.toNat : Nat), .bool mo, .int .i64 mN]) :: F) rx nn f := hBf.mono fun p hp => List.mem_cons_of_mem _ hp
    have hBg1 : BlkAt ((ro, ARow.cells 56 [.int .u8 (mk.toNat : Nat), mv, .int .u8 (mf.toNat : Nat), .bool mo, .int .i64 mN]) :: F) ry nn g := hBg.mono fun p hp => List.mem_cons_of_mem _ hp
    show OS _ _ _ _ (jq rj rdj rd rb s ((ro, ARow.cells 56 [.int .u8 (mk.toNat : Nat), mv, .int .u8 (mf.toNat : Nat), .bool mo, .int .i64 mN]) :: F)) _
    clear hF hJS hBf hBg hlF
    generalize (ro, ARow.cells 56 [.int .u8 (mk.toNat : Nat), mv, .int .u8 (mf.toNat : Nat), .bool mo, .int .i64 mN]) :: F = F1 at *
    have hroq : ∀ {s}, (ro, ARow.cells 56 [.int .u8 (mk.toNat : Nat), mv, .int .u8 (mf.toNat : Nat), .bool mo, .int .i64 mN]) ∈ jq rj rdj rd rb s F1 := fun {s} => List.mem_cons_of_mem _ (List.mem_cons_of_mem _ (List.mem_cons_of_mem _ hro))
    have hvq : SV 1 (jq rj rdj rd rb s F1) mv mzs.length (mzs.map fun z => .int .i64 z) := hv0.mono fun p hp => List.mem_cons_of_mem _ (List.mem_cons_of_mem _ (List.mem_cons_of_mem _ (hF1 p hp)))
    refine OS.pure rfl (fun _ => rfl) rfl ?_
    refine OS.read rfl (e_loadm hroq rfl rfl rfl rfl) rfl ?_
    refine OS.nil ?_
    repeat refine LS.seq ?_
    refine LS.mid [1, 4, 5, 11, 13, 14, 15, 16] (fun a L2 => PI nn vl vn L0 nam k (k + 1) a L2) ?_ ?_
    · by_cases hk0 : mk = 0
      · subst hk0
        repeat refine LS.seq ?_
        refine LS.block ?_
        repeat refine LS.seq ?_
        refine LS.region rfl ?_
        refine OS.pure rfl (fun _ => rfl) rfl ?_
        refine OS.pure rfl (fun _ => rfl) rfl ?_
        refine OS.nil ?_
        refine LS.cond rfl (fun hc => ?_) (fun hc => by cases hc)
        repeat refine LS.seq ?_
        refine LS.region rfl ?_
        refine OS.read rfl (e_loadm hroq rfl rfl rfl (part_agg rfl rfl rfl)) rfl ?_
        refine OS.call noGo rfl (fun _ => rfl) ((group_ct hvq (by omega)).mono ?_)
        rintro v L' ⟨w1, w2, gs1, gs2, Zg, W0, rfl, rfl, hw1, hw2, hRg, hRr, hb1, hb2⟩
        refine ⟨_, rfl, ?_⟩
        refine OS.sub Sub.up3 ?_
        refine OS.pure rfl (fun _ => rfl) rfl ?_
        refine OS.pure rfl (fun _ => rfl) rfl ?_
        refine OS.pure rfl (fun _ => rfl) rfl ?_
        refine OS.pure rfl (fun _ => rfl) rfl ?_
        refine OS.pure rfl (fun _ => rfl) rfl ?_
        refine OS.nil ?_
        obtain ⟨ps, hps⟩ : ∃ ps, ps = grp mzs mf mo mzs.length := ⟨_, rfl⟩
        rw [← hps] at hb1 hb2
        have hgl1 : gs1.length = mzs.length := by have := congrArg List.length hb1; rwa [bd_len, hps, grp_len (Nat.le_refl _)] at this
        have hgl2 : gs2.length = mzs.length := by have := congrArg List.length hb2; rwa [bd_len, hps, grp_len (Nat.le_refl _)] at this
        have hpl : ps.length = mzs.length := by rw [hps, grp_len (Nat.le_refl _)]
        have hpn : ∀ p ∈ ps, p.1 ∈ nam := fun p hp => by
          rw [hps] at hp
          obtain ⟨q, hq, rfl⟩ := List.mem_map.1 hp
          have := List.mem_zipIdx hq
          refine hall0 q.1 ?_
          rw [this.2.2]
          exact List.mem_of_mem_take (List.getElem_mem _)
        obtain ⟨e, s', hdo, hn', hwl, hwu, hcs⟩ := do_any_step hst hw8 hpn
        obtain ⟨b, hb⟩ : ∃ b, s.dead = b := ⟨_, rfl⟩
        have hJ2 : JS (Zg ++ (W0 ++ F1)) rdj rd s := hJ1.mono fun p hp => List.mem_append_right _ (List.mem_append_right _ hp)
        have hS1 : SV 2 (Zg ++ (W0 ++ F1)) w1 mzs.length (gcells gs1) := hw1.mono fun p hp => List.mem_append_right _ (List.mem_append_left _ hp)
        repeat refine LS.seq ?_
        refine LS.region rfl ?_
        refine OS.pure rfl (fun _ => rfl) rfl ?_
        refine OS.call noGo rfl (fun _ => rfl) ((jWrites_q).mono ?_)
        rintro v L' ⟨rfl, rfl⟩
        refine ⟨_, rfl, ?_⟩
        refine OS.pure rfl (fun _ => rfl) rfl ?_
        refine OS.call noGo rfl (fun _ => rfl) ((jDead_b hb).mono ?_)
        rintro v L' ⟨rfl, rfl⟩
        refine ⟨_, rfl, ?_⟩
        refine OS.pure rfl (fun _ => rfl) rfl ?_
        refine OS.pure rfl (fun _ => rfl) rfl ?_
        refine OS.nil ?_
        repeat refine LS.seq ?_
        refine LS.region rfl ?_
        refine OS.pure rfl (fun _ => rfl) rfl ?_
        refine OS.pure rfl (fun _ => rfl) rfl ?_
        refine OS.call noGo rfl (fun _ => rfl) ((jDo_eq hb1 hdo hJ2 hok hw8 hS1 hRg.reads).mono ?_)
        rintro v L' ⟨rfl, rfl⟩
        refine ⟨_, rfl, ?_⟩
        refine OS.pure rfl (fun _ => rfl) rfl ?_
        refine OS.nil ?_
        repeat refine LS.seq ?_
        refine LS.region rfl ?_
        refine OS.pure rfl (fun _ => rfl) rfl ?_
        refine OS.nil ?_
        repeat refine LS.seq ?_
        refine LS.mid [1, 4, 5, 11, 13, 14, 15, 16, 19, 20, 21, 22] (fun a L2 => ∃ Z, L2 = jq rj rdj rd rb s' (Z ++ (W0 ++ F1)) ∧ a = [.chan none, vl, .chan none, .chan none, .bool false, ptr rd, .chan none, .chan none, .chan none, .chan none, .chan none, vn, .chan none, ptr rj, ptr rx, ptr ry, .int .i64 (k : Nat), .chan none, .chan none, w2, .int .i64 (s.wr : Nat), .bool b, .int .i64 e, .chan none, .chan none, .chan none, .chan none, .chan none, .chan none, .chan none, .chan none, .chan none, .chan none, .chan none, .chan none, .chan none, .chan none, .chan none, .chan none, .chan none, .chan none, .chan none, .chan none, .chan none, .chan none, .chan none, .chan none, .chan none, .chan none, .chan none, .chan none, .chan none, .chan none, .chan none, .chan none, .chan none, .chan none, .chan none, .chan none, .chan none, .chan none, .chan none, .chan none, .chan none, .chan none, .chan none, .chan none, .chan none, .chan none, .chan none, .chan none, .chan none, .chan none, .chan none, .chan none, .chan none, .chan none, .chan none, .chan none, .chan none, .chan none, .chan none, .chan none, .chan none, .chan none, .chan none, .chan none, .chan none, .chan none, .chan none, .chan none, .chan none, .chan none, .chan none, .chan none, .chan none, .chan none, .chan none, .chan none, .chan none, .chan none, .chan none, .chan none, .chan none, .chan none, .chan none, .chan none, .chan none, .chan none, .chan none, .chan none, .chan none, .chan none, .chan none, .chan none, .chan none, .chan none, .chan none, .chan none, .chan none, .chan none, .chan none, .chan none, .chan none, .chan none, .chan none, .chan none, .chan none, .chan none, .chan none, .chan none, .chan none, .chan none, .chan none, .chan none, .chan none, .chan none, .chan none, .chan none, .chan none, .chan none, .chan none, .chan none, .chan none, .chan none, .chan none, .chan none, .chan none, .chan none, .chan none, .chan none, .chan none, .chan none, .chan none, .chan none, .chan none, .chan none, .chan none, .chan none, .chan none, .chan none, .chan none, .chan none, .chan none, .chan none, .chan none, .chan none, .chan none, .chan none, .chan none, .chan none, .chan none, .chan none, .chan none, .chan none, .chan none, .chan none, .chan none, .chan none, .chan none, .chan none, .chan none, .chan none, .chan none, .chan none, .chan none, .chan none, .chan none, .chan none, .chan none, .chan none, .chan none, .chan none, .chan none, .chan none, .chan none, .chan none, .chan none, .chan none, .chan none, .chan none, .chan none, .chan none, .chan none, .chan none, .chan none, .chan none, .chan none, .chan none, .chan none, .chan none, .chan none, .chan none, .chan none, .chan none, .chan none, .chan none, .chan none, .chan none, .chan none, .chan none, .chan none, .chan none, .chan none, .chan none, .chan none, .chan none, .chan none, .chan none, .chan none, .chan none, .chan none, .chan none, .chan none, .chan none, .chan none, .chan none, .chan none, .chan none, .chan none, .chan none, .chan none, .chan none, .chan none, .chan none, .chan none, .chan none, .chan none, .chan none, .chan none, .chan none, .chan none, .chan none, .chan none, .chan none, .chan none, .chan none, .chan none, .chan none, .chan none, .chan none, .chan none, .chan none, .chan none, .chan none, .chan none, .chan none, .chan none, .chan none, .chan none, .chan none, .chan none, .chan none, .chan none, .chan none, .chan none, .chan none, .chan none, .chan none, .chan none, .chan none, .chan none, .chan none, .chan none, .chan none, .chan none, .chan none, .chan none, .chan none, .chan none, .chan none, .chan none, .chan none, .chan none, .chan none, .chan none, .chan none, .chan none, .chan none, .chan none, .chan none, .chan none, .chan none, .chan none, .chan none, .chan none, .chan none, .chan none, .chan none, .chan none, .chan none, .chan none, .chan none, .chan none, .chan none, .chan none, .chan none, .chan none, .chan none, .chan none, .chan none, .chan none, .chan none, .chan none, .chan none, .chan none, .chan none, .chan none, .chan none, .chan none, .chan none, .chan none, .chan none, .chan none, .chan none, .chan none, .chan none, .chan none, .chan none, .chan none, .chan none, .chan none, .chan none, .chan none, .chan none, .chan none, .chan none, .chan none, .chan none, .chan none, .chan none, .chan none, .chan none, .chan none, .chan none, .chan none, .chan none, .chan none, .chan none, .chan none, .chan none, .chan none, .chan none, .chan none, .chan none, .chan none, .chan none, .chan none, .chan none, .chan none, .chan none, .chan none, .chan none, .chan none, .chan none, .chan none, .chan none, .chan none, .chan none, .chan none, .chan none, .chan none, .chan none, .chan none, .chan none, .chan none, .chan none, .chan none, .chan none, .chan none, .chan none, .chan none, .chan none, .chan none, .chan none, .chan none, .chan none, .chan none, .chan none, .chan none, .chan none, .chan none, .chan none, .chan none]) ?_ ?_
        · repeat refine LS.seq ?_
          refine LS.block ?_
          have hW1 : ∀ {Z : RL}, SV 2 (jq rj rdj rd rb s' (Z ++ (W0 ++ F1))) w1 mzs.length (gcells gs1) := fun {Z} => hw1.mono fun p hp => List.mem_cons_of_mem _ (List.mem_cons_of_mem _ (List.mem_cons_of_mem _ (List.mem_append_right _ (List.mem_append_left _ hp))))
          have hW2 : ∀ {Z : RL}, SV 2 (jq rj rdj rd rb s' (Z ++ (W0 ++ F1))) w2 mzs.length (gcells gs2) := fun {Z} => hw2.mono fun p hp => List.mem_cons_of_mem _ (List.mem_cons_of_mem _ (List.mem_cons_of_mem _ (List.mem_append_right _ (List.mem_append_left _ hp))))
          refine LS.loopJ [1, 4, 5, 11, 13, 14, 15, 16, 18, 19, 20, 21, 22, 23] (fun q a L' => ∃ (p : Nat) (Z : RL), q = mzs.length - p ∧ p ≤ mzs.length ∧ Z.length = mzs.length ∧ (∀ j, p ≤ j → Z[j]? = Zg[j]?) ∧ L' = jq rj rdj rd rb s' (Z ++ (W0 ++ F1)) ∧
            a = [.chan none, vl, .chan none, .chan none, .bool false, ptr rd, .chan none, .chan none, .chan none, .chan none, .chan none, vn, .chan none, ptr rj, ptr rx, ptr ry, .int .i64 (k : Nat), .chan none, w1, w2, .int .i64 (s.wr : Nat), .bool b, .int .i64 e, .int .i64 (p : Nat), .chan none, .chan none, .chan none, .chan none, .chan none, .chan none, .chan none, .chan none, .chan none, .chan none, .chan none, .chan none, .chan none, .chan none, .chan none, .chan none, .chan none, .chan none, .chan none, .chan none, .chan none, .chan none, .chan none, .chan none, .chan none, .chan none, .chan none, .chan none, .chan none, .chan none, .chan none, .chan none, .chan none, .chan none, .chan none, .chan none, .chan none, .chan none, .chan none, .chan none, .chan none, .chan none, .chan none, .chan none, .chan none, .chan none, .chan none, .chan none, .chan none, .chan none, .chan none, .chan none, .chan none, .chan none, .chan none, .chan none, .chan none, .chan none, .chan none, .chan none, .chan none, .chan none, .chan none, .chan none, .chan none, .chan none, .chan none, .chan none, .chan none, .chan none, .chan none, .chan none, .chan none, .chan none, .chan none, .chan none, .chan none, .chan none, .chan none, .chan none, .chan none, .chan none, .chan none, .chan none, .chan none, .chan none, .chan none, .chan none, .chan none, .chan none, .chan none, .chan none, .chan none, .chan none, .chan none, .chan none, .chan none, .chan none, .chan none, .chan none, .chan none, .chan none, .chan none, .chan none, .chan none, .chan none, .chan none, .chan none, .chan none, .chan none, .chan none, .chan none, .chan none, .chan none, .chan none, .chan none, .chan none, .chan none, .chan none, .chan none, .chan none, .chan none, .chan none, .chan none, .chan none, .chan none, .chan none, .chan none, .chan none, .chan none, .chan none, .chan none, .chan none, .chan none, .chan none, .chan none, .chan none, .chan none, .chan none, .chan none, .chan none, .chan none, .chan none, .chan none, .chan none, .chan none, .chan none, .chan none, .chan none, .chan none, .chan none, .chan none, .chan none, .chan none, .chan none, .chan none, .chan none, .chan none, .chan none, .chan none, .chan none, .chan none, .chan none, .chan none, .chan none, .chan none, .chan none, .chan none, .chan none, .chan none, .chan none, .chan none, .chan none, .chan none, .chan none, .chan none, .chan none, .chan none, .chan none, .chan none, .chan none, .chan none, .chan none, .chan none, .chan none, .chan none, .chan none, .chan none, .chan none, .chan none, .chan none, .chan none, .chan none, .chan none, .chan none, .chan none, .chan none, .chan none, .chan none, .chan none, .chan none, .chan none, .chan none, .chan none, .chan none, .chan none, .chan none, .chan none, .chan none, .chan none, .chan none, .chan none, .chan none, .chan none, .chan none, .chan none, .chan none, .chan none, .chan none, .chan none, .chan none, .chan none, .chan none, .chan none, .chan none, .chan none, .chan none, .chan none, .chan none, .chan none, .chan none, .chan none, .chan none, .chan none, .chan none, .chan none, .chan none, .chan none, .chan none, .chan none, .chan none, .chan none, .chan none, .chan none, .chan none, .chan none, .chan none, .chan none, .chan none, .chan none, .chan none, .chan none, .chan none, .chan none, .chan none, .chan none, .chan none, .chan none, .chan none, .chan none, .chan none, .chan none, .chan none, .chan none, .chan none, .chan none, .chan none, .chan none, .chan none, .chan none, .chan none, .chan none, .chan none, .chan none, .chan none, .chan none, .chan none, .chan none, .chan none, .chan none, .chan none, .chan none, .chan none, .chan none, .chan none, .chan none, .chan none, .chan none, .chan none, .chan none, .chan none, .chan none, .chan none, .chan none, .chan none, .chan none, .chan none, .chan none, .chan none, .chan none, .chan none, .chan none, .chan none, .chan none, .chan none, .chan none, .chan none, .chan none, .chan none, .chan none, .chan none, .chan none, .chan none, .chan none, .chan none, .chan none, .chan none, .chan none, .chan none, .chan none, .chan none, .chan none, .chan none, .chan none, .chan none, .chan none, .chan none, .chan none, .chan none, .chan none, .chan none, .chan none, .chan none, .chan none, .chan none, .chan none, .chan none, .chan none, .chan none, .chan none, .chan none, .chan none, .chan none, .chan none, .chan none, .chan none, .chan none, .chan none, .chan none, .chan none, .chan none, .chan none, .chan none, .chan none, .chan none, .chan none, .chan none, .chan none, .chan none, .chan none, .chan none, .chan none, .chan none, .chan none, .chan none, .chan none, .chan none, .chan none, .chan none, .chan none, .chan none, .chan none, .chan none, .chan none, .chan none, .chan none, .chan none, .chan none, .chan none, .chan none]) (n := mzs.length) rfl ⟨0, Zg, rfl, by omega, hRg.1.trans hgl1, fun j _ => rfl, rfl, rfl⟩ ?_
          rintro q a L' ⟨p, Z, rfl, hp, hZl, hZ, rfl, rfl⟩
          repeat refine LS.seq ?_
          refine LS.region rfl ?_
          refine OS.pure rfl (fun _ => rfl) rfl ?_
          refine OS.pure rfl (fun _ => rfl) rfl ?_
          refine OS.pure rfl (e_len (hW1 (Z := Z)) rfl rfl rfl rfl rfl) rfl ?_
          refine OS.pure rfl (fun _ => rfl) rfl ?_
          refine OS.nil ?_
          repeat refine LS.seq ?_
          refine LS.cond rfl (fun hc => ?_) (fun hc => ?_)
          · have hc : (p : Int) < (mzs.length : Nat) := lt_of hc
            have hpin : p < mzs.length := by omega
            have hg1 : gs1[p]? = some gs1[p] := List.getElem?_eq_getElem (by omega)
            have hg2 : gs2[p]? = some gs2[p] := List.getElem?_eq_getElem (by omega)
            have hmem2 : gs2[p] ∈ gs2 := List.getElem_mem (by omega)
            generalize gs1[p] = g1 at hg1
            generalize gs2[p] = g2 at hg2 hmem2
            have hbd1 := bd_get hg1
            have hbd2 := bd_get hg2
            rw [hb1] at hbd1
            rw [hb2, hbd1] at hbd2
            have hbd3 := Option.some.inj hbd2
            have hbe : g1.b = g2.b := congrArg Prod.fst hbd3
            have hde : g1.d = g2.d := congrArg Prod.snd hbd3
            obtain ⟨ra, c, hv1, hd1, hl1, hr1⟩ := hRg.2 p g1 hg1
            have hZp := (hZ p (Nat.le_refl _)).trans hr1
            have hSg : SV 1 (jq rj rdj rd rb s' (Z ++ (W0 ++ F1))) g1.v g1.d.length (byteCells g1.d) := .inr ⟨ra, 0, 256, _, _, hv1, List.mem_cons_of_mem _ (List.mem_cons_of_mem _ (List.mem_cons_of_mem _ (List.mem_append_left _ (List.mem_of_getElem? hZp)))), rfl, by rw [cut_r hl1, ← hd1]⟩
            obtain ⟨m2, hSm⟩ := hRr g2 hmem2
            have hSm : SV 1 (jq rj rdj rd rb s' (Z ++ (W0 ++ F1))) g2.v m2 (byteCells g2.d) := hSm.mono fun p hp => List.mem_cons_of_mem _ (List.mem_cons_of_mem _ (List.mem_cons_of_mem _ (List.mem_append_right _ (List.mem_append_left _ hp))))
            refine LS.skip ?_
            repeat refine LS.seq ?_
            refine LS.block ?_
            repeat refine LS.seq ?_
            refine LS.drawn noGo mixed [(0, false), (1, false), (2, false), (3, false), (4, false), (5, false), (6, false), (7, false), (8, false), (9, false), (10, false), (11, false), (12, false), (13, false), (14, false), (15, false), (16, false), (17, false), (18, false), (19, false), (20, false), (21, false), (22, false), (23, false), (24, false), (25, false)] rfl rfl (by kernel_rfl) ?_
            refine ODS.pure rfl rfl (fun _ => rfl) rfl ?_
            refine ODS.pure rfl rfl (fun _ => rfl) rfl ?_
            refine ODS.at (j := p) (hW1 (Z := Z)) hpin rfl rfl rfl rfl rfl rfl rfl (fun r1 o1 row1 cs1 m1 c1 q1 k1 => ?_)
            refine ⟨_, rfl, ?_⟩
            refine ODS.pure rfl rfl (fun _ => rfl) rfl ?_
            refine ODS.read rfl rfl (e_loadm m1 c1 rfl rfl (part_one rfl (q1 0 _ (by omega) (pc_at (gp gs1) p 0 _ (gp_get hg1) (by omega))))) rfl ?_
            refine ODS.pure rfl rfl (fun _ => rfl) rfl ?_
            refine ODS.pure rfl rfl (fun _ => rfl) rfl ?_
            refine ODS.at (j := p) (hW2 (Z := Z)) hpin rfl rfl rfl rfl rfl rfl rfl (fun r2 o2 row2 cs2 m2' c2 q2 k2 => ?_)
            refine ⟨_, rfl, ?_⟩
            refine ODS.pure rfl rfl (fun _ => rfl) rfl ?_
            refine ODS.read rfl rfl (e_loadm m2' c2 rfl rfl (part_one rfl (q2 0 _ (by omega) (pc_at (gp gs2) p 0 _ (gp_get hg2) (by omega))))) rfl ?_
            refine ODS.pure rfl rfl (e_is (fun _ => rfl) (congrArg Value.bool (show (!ieqB g1.b g2.b) = false by rw [hbe]; exact ne_self _))) rfl ?_
            refine ODS.pure rfl rfl (fun _ => rfl) rfl ?_
            refine ODS.pure rfl rfl (fun _ => rfl) rfl ?_
            refine ODS.pure rfl rfl (fun _ => rfl) rfl ?_
            refine ODS.at (j := p) (hW1 (Z := Z)) hpin rfl rfl rfl rfl rfl rfl rfl (fun r3 o3 row3 cs3 m3 c3 q3 k3 => ?_)
            refine ⟨_, rfl, ?_⟩
            refine ODS.pure rfl rfl (fun _ => rfl) rfl ?_
            refine ODS.read rfl rfl (e_loadm m3 c3 rfl rfl (part_one rfl (q3 1 _ (by omega) (pc_at (gp gs1) p 1 _ (gp_get hg1) (by omega))))) rfl ?_
            refine ODS.read rfl rfl (e_textSV (bs := g1.d) hSg rfl rfl rfl rfl rfl) rfl ?_
            refine ODS.pure rfl rfl (fun _ => rfl) rfl ?_
            refine ODS.pure rfl rfl (fun _ => rfl) rfl ?_
            refine ODS.at (j := p) (hW2 (Z := Z)) hpin rfl rfl rfl rfl rfl rfl rfl (fun r4 o4 row4 cs4 m4 c4 q4 k4 => ?_)
            refine ⟨_, rfl, ?_⟩
            refine ODS.pure rfl rfl (fun _ => rfl) rfl ?_
            refine ODS.read rfl rfl (e_loadm m4 c4 rfl rfl (part_one rfl (q4 1 _ (by omega) (pc_at (gp gs2) p 1 _ (gp_get hg2) (by omega))))) rfl ?_
            refine ODS.read rfl rfl (e_textSV (bs := g2.d) hSm rfl rfl rfl rfl rfl) rfl ?_
            refine ODS.pure rfl rfl (e_is (fun _ => rfl) (congrArg Value.bool (show (!bytesEq g1.d g2.d) = false by rw [bytes_dec, decide_eq_true hde]; rfl))) rfl ?_
            refine ODS.pure rfl rfl (fun _ => rfl) rfl ?_
            refine ODS.nil ?_
            repeat refine LS.seq ?_
            refine LS.cond rfl (fun hc => by cases hc) (fun hc => ?_)
            refine LS.skip ?_
            repeat refine LS.seq ?_
            refine LS.region rfl ?_
            refine OS.pure rfl (fun _ => rfl) rfl ?_
            refine OS.nil ?_
            repeat refine LS.seq ?_
            refine LS.block ?_
            refine LS.loopJ [1, 4, 5, 11, 13, 14, 15, 16, 18, 19, 20, 21, 22, 23, 24] (fun q a L' => ∃ (j : Nat) (cs : List Value), q = g1.d.length - j ∧ j ≤ g1.d.length ∧ cs.length = 256 ∧ L' = jq rj rdj rd rb s' (Z.set p (ra, .cells 5 cs) ++ (W0 ++ F1)) ∧
              a = [.chan none, vl, .chan none, .chan none, .bool false, ptr rd, .chan none, .chan none, .chan none, .chan none, .chan none, vn, .chan none, ptr rj, ptr rx, ptr ry, .int .i64 (k : Nat), .chan none, w1, w2, .int .i64 (s.wr : Nat), .bool b, .int .i64 e, .int .i64 (p : Nat), .int .i64 (j : Nat), .chan none, .chan none, .chan none, .chan none, .chan none, .chan none, .chan none, .chan none, .chan none, .chan none, .chan none, .chan none, .chan none, .chan none, .chan none, .chan none, .chan none, .chan none, .chan none, .chan none, .chan none, .chan none, .chan none, .chan none, .chan none, .chan none, .chan none, .chan none, .chan none, .chan none, .chan none, .chan none, .chan none, .chan none, .chan none, .chan none, .chan none, .chan none, .chan none, .chan none, .chan none, .chan none, .chan none, .chan none, .chan none, .chan none, .chan none, .chan none, .chan none, .chan none, .chan none, .chan none, .chan none, .chan none, .chan none, .chan none, .chan none, .chan none, .chan none, .chan none, .chan none, .chan none, .chan none, .chan none, .chan none, .chan none, .chan none, .chan none, .chan none, .chan none, .chan none, .chan none, .chan none, .chan none, .chan none, .chan none, .chan none, .chan none, .chan none, .chan none, .chan none, .chan none, .chan none, .chan none, .chan none, .chan none, .chan none, .chan none, .chan none, .chan none, .chan none, .chan none, .chan none, .chan none, .chan none, .chan none, .chan none, .chan none, .chan none, .chan none, .chan none, .chan none, .chan none, .chan none, .chan none, .chan none, .chan none, .chan none, .chan none, .chan none, .chan none, .chan none, .chan none, .chan none, .chan none, .chan none, .chan none, .chan none, .chan none, .chan none, .chan none, .chan none, .chan none, .chan none, .chan none, .chan none, .chan none, .chan none, .chan none, .chan none, .chan none, .chan none, .chan none, .chan none, .chan none, .chan none, .chan none, .chan none, .chan none, .chan none, .chan none, .chan none, .chan none, .chan none, .chan none, .chan none, .chan none, .chan none, .chan none, .chan none, .chan none, .chan none, .chan none, .chan none, .chan none, .chan none, .chan none, .chan none, .chan none, .chan none, .chan none, .chan none, .chan none, .chan none, .chan none, .chan none, .chan none, .chan none, .chan none, .chan none, .chan none, .chan none, .chan none, .chan none, .chan none, .chan none, .chan none, .chan none, .chan none, .chan none, .chan none, .chan none, .chan none, .chan none, .chan none, .chan none, .chan none, .chan none, .chan none, .chan none, .chan none, .chan none, .chan none, .chan none, .chan none, .chan none, .chan none, .chan none, .chan none, .chan none, .chan none, .chan none, .chan none, .chan none, .chan none, .chan none, .chan none, .chan none, .chan none, .chan none, .chan none, .chan none, .chan none, .chan none, .chan none, .chan none, .chan none, .chan none, .chan none, .chan none, .chan none, .chan none, .chan none, .chan none, .chan none, .chan none, .chan none, .chan none, .chan none, .chan none, .chan none, .chan none, .chan none, .chan none, .chan none, .chan none, .chan none, .chan none, .chan none, .chan none, .chan none, .chan none, .chan none, .chan none, .chan none, .chan none, .chan none, .chan none, .chan none, .chan none, .chan none, .chan none, .chan none, .chan none, .chan none, .chan none, .chan none, .chan none, .chan none, .chan none, .chan none, .chan none, .chan none, .chan none, .chan none, .chan none, .chan none, .chan none, .chan none, .chan none, .chan none, .chan none, .chan none, .chan none, .chan none, .chan none, .chan none, .chan none, .chan none, .chan none, .chan none, .chan none, .chan none, .chan none, .chan none, .chan none, .chan none, .chan none, .chan none, .chan none, .chan none, .chan none, .chan none, .chan none, .chan none, .chan none, .chan none, .chan none, .chan none, .chan none, .chan none, .chan none, .chan none, .chan none, .chan none, .chan none, .chan none, .chan none, .chan none, .chan none, .chan none, .chan none, .chan none, .chan none, .chan none, .chan none, .chan none, .chan none, .chan none, .chan none, .chan none, .chan none, .chan none, .chan none, .chan none, .chan none, .chan none, .chan none, .chan none, .chan none, .chan none, .chan none, .chan none, .chan none, .chan none, .chan none, .chan none, .chan none, .chan none, .chan none, .chan none, .chan none, .chan none, .chan none, .chan none, .chan none, .chan none, .chan none, .chan none, .chan none, .chan none, .chan none, .chan none, .chan none, .chan none, .chan none, .chan none, .chan none, .chan none, .chan none, .chan none, .chan none, .chan none, .chan none, .chan none, .chan none, .chan none, .chan none, .chan none, .chan none, .chan none, .chan none, .chan none, .chan none, .chan none, .chan none, .chan none, .chan none, .chan none]) (n := g1.d.length) rfl ⟨0, byteCells (r256 c), rfl, by omega, by rw [byteCells_len]; simp, by rw [set_same hZp], rfl⟩ ?_
            rintro q a L' ⟨j, cs, rfl, hj, hcs, rfl, rfl⟩
            have hrow : (Z.set p (ra, .cells 5 cs))[p]? = some (ra, .cells 5 cs) := List.getElem?_set_self (by omega)
            have hSg2 : SV 1 (jq rj rdj rd rb s' (Z.set p (ra, .cells 5 cs) ++ (W0 ++ F1))) g1.v g1.d.length ((cs.drop 0).take (g1.d.length * 1)) := .inr ⟨ra, 0, 256, _, cs, hv1, List.mem_cons_of_mem _ (List.mem_cons_of_mem _ (List.mem_cons_of_mem _ (List.mem_append_left _ (List.mem_of_getElem? hrow)))), rfl, cut_of (by omega)⟩
            repeat refine LS.seq ?_
            refine LS.region rfl ?_
            refine OS.pure rfl (fun _ => rfl) rfl ?_
            refine OS.pure rfl (fun _ => rfl) rfl ?_
            refine OS.pure rfl (fun _ => rfl) rfl ?_
            refine OS.at (j := p) hW1 hpin rfl rfl rfl rfl rfl rfl (fun r5 o5 row5 cs5 m5 c5 q5 k5 => ?_)
            refine ⟨_, rfl, ?_⟩
            refine OS.pure rfl (fun _ => rfl) rfl ?_
            refine OS.read rfl (e_loadm m5 c5 rfl rfl (part_one rfl (q5 1 _ (by omega) (pc_at (gp gs1) p 1 _ (gp_get hg1) (by omega))))) rfl ?_
            refine OS.pure rfl (e_len hSg2 rfl rfl rfl rfl rfl) rfl ?_
            refine OS.pure rfl (fun _ => rfl) rfl ?_
            refine OS.nil ?_
            repeat refine LS.seq ?_
            refine LS.cond rfl (fun hc2 => ?_) (fun hc2 => ?_)
            · have hc2 : (j : Int) < (g1.d.length : Nat) := lt_of hc2
              have hj2 : j < g1.d.length := by omega
              refine LS.skip ?_
              repeat refine LS.seq ?_
              refine LS.block ?_
              repeat refine LS.seq ?_
              refine LS.region rfl ?_
              refine OS.pure rfl (fun _ => rfl) rfl ?_
              refine OS.pure rfl (fun _ => rfl) rfl ?_
              refine OS.at (j := p) hW1 hpin rfl rfl rfl rfl rfl rfl (fun r6 o6 row6 cs6 m6 c6 q6 k6 => ?_)
              refine ⟨_, rfl, ?_⟩
              refine OS.pure rfl (fun _ => rfl) rfl ?_
              refine OS.read rfl (e_loadm m6 c6 rfl rfl (part_one rfl (q6 1 _ (by omega) (pc_at (gp gs1) p 1 _ (gp_get hg1) (by omega))))) rfl ?_
              rw [hv1]
              refine OS.pure rfl (fun _ => rfl) rfl ?_
              refine OS.pure rfl (e_index (j := j) (sz := 1) rfl rfl rfl rfl rfl hj2) rfl ?_
              refine OS.write rfl (e_store (3 + p) (n := 1) (cs := cs) (cs' := cs.set j (.int .u8 221)) rfl rfl rfl (by rw [show 3 + p = p + 1 + 1 + 1 by omega]; simp only [List.getElem?_cons_succ]; rw [List.getElem?_append_left (by rw [List.length_set]; omega)]; exact hrow) rfl rfl (by rw [show 0 + j * 1 = j by omega]; exact lay_one (by omega)) (set_q (by rw [List.length_set]; omega))) rfl ?_
              refine OS.nil ?_
              repeat refine LS.seq ?_
              refine LS.region rfl ?_
              refine OS.pure rfl (fun _ => rfl) rfl ?_
              refine OS.pure rfl (e_add rfl rfl rfl (in_i64 (by omega) (by omega))) rfl ?_
              refine OS.pure rfl (fun _ => rfl) rfl ?_
              refine OS.nil ?_
              exact ⟨g1.d.length - (j + 1), by omega, j + 1, cs.set j (.int .u8 221), rfl, by omega, by rw [List.length_set]; exact hcs, by rw [List.set_set], rfl⟩
            refine LS.exit ?_
            repeat refine LS.seq ?_
            refine LS.region rfl ?_
            refine OS.pure rfl (fun _ => rfl) rfl ?_
            refine OS.pure rfl (e_add rfl rfl rfl (in_i64 (by omega) (by omega))) rfl ?_
            refine OS.pure rfl (fun _ => rfl) rfl ?_
            refine OS.nil ?_
            exact ⟨mzs.length - (p + 1), by omega, p + 1, _, rfl, by omega, by rw [List.length_set]; exact hZl, fun j hj => by rw [List.getElem?_set_ne (by omega)]; exact hZ j (by omega), rfl, rfl⟩
          refine LS.exit ?_
          exact ⟨Z, rfl, rfl⟩
        rintro a L2 ⟨Z, rfl, rfl⟩
        have hF2 : ∀ p, p ∈ L0 → p ∈ Z ++ (W0 ++ F1) := fun p hp => List.mem_append_right _ (List.mem_append_right _ (hF1 p hp))
        have hJ3 : JS (Z ++ (W0 ++ F1)) rdj rd s' := by
          rcases hJ1 with h | ⟨h, rb', s'', h1, h2⟩
          · exact .inl h
          · rcases hcs with ⟨_, _, hss, _⟩ | ⟨h', _⟩ | ⟨h', _⟩ | ⟨h', _⟩
            · rw [hss]; exact .inr ⟨h, rb', s'', h1, List.mem_append_right _ (List.mem_append_right _ h2)⟩
            all_goals rw [h] at h'; cases h'
        have hBf3 : BlkAt (Z ++ (W0 ++ F1)) rx nn f := hBf1.mono fun p hp => List.mem_append_right _ (List.mem_append_right _ hp)
        have hBg3 : BlkAt (Z ++ (W0 ++ F1)) ry nn g := hBg1.mono fun p hp => List.mem_append_right _ (List.mem_append_right _ hp)
        have hW2 : SV 2 (Z ++ (W0 ++ F1)) w2 mzs.length (gcells gs2) := hw2.mono fun p hp => List.mem_append_right _ (List.mem_append_left _ hp)
        have hR2 : Reads (Z ++ (W0 ++ F1)) gs2 := hRr.mono fun p hp => List.mem_append_right _ (List.mem_append_left _ hp)
        generalize Z ++ (W0 ++ F1) = F2 at *
        have hq : ∀ {s}, ∀ p, p ∈ F2 → p ∈ jq rj rdj rd rb s F2 := fun {s} p hp => List.mem_cons_of_mem _ (List.mem_cons_of_mem _ (List.mem_cons_of_mem _ hp))
        repeat refine LS.seq ?_
        refine LS.region rfl ?_
        refine OS.pure rfl (fun _ => rfl) rfl ?_
        refine OS.pure rfl (fun _ => rfl) rfl ?_
        refine OS.call noGo rfl (fun _ => rfl) ((bCheck_any (hBf3.mono hq) hn0 (hW2.mono hq) (hR2.mono hq)).mono ?_)
        rintro v L' ⟨c, rfl, hck, rfl⟩
        rw [hb2, ← hsn] at hck
        refine ⟨_, rfl, ?_⟩
        refine OS.pure rfl (fun _ => rfl) rfl ?_
        refine OS.nil ?_
        rcases hcs with ⟨hd, rfl, hss, hD⟩ | ⟨hd, rfl, hk0, hD⟩ | ⟨hd, he0, he20, hk0, hA⟩ | ⟨hd, rfl, hk0, hA, hwb, hw0⟩
        · have hbt : b = true := hb.symm.trans hd
          subst hbt
          have hww : (!ieqB ((s'.wr : Nat) : Int) ((s.wr : Nat) : Int)) = false := by rw [hss]; exact ne_self _
          repeat refine LS.seq ?_
          refine LS.block ?_
          repeat refine LS.seq ?_
          refine LS.region rfl ?_
          refine OS.pure rfl (fun _ => rfl) rfl ?_
          refine OS.pure rfl (fun _ => rfl) rfl ?_
          refine OS.pure rfl (fun _ => rfl) rfl ?_
          refine OS.nil ?_
          refine LS.cond rfl (fun hc => ?_) (fun hc => by cases hc)
          repeat refine LS.seq ?_
          refine LS.region rfl ?_
          refine OS.pure rfl (fun _ => rfl) rfl ?_
          refine OS.call noGo rfl (fun _ => rfl) ((jDead_b (b := true) (s := s') (by rw [hss]; exact hd)).mono ?_)
          rintro v L' ⟨rfl, rfl⟩
          refine ⟨_, rfl, ?_⟩
          refine OS.pure rfl (fun _ => rfl) rfl ?_
          refine OS.pure rfl (fun _ => rfl) rfl ?_
          refine OS.pure rfl (fun _ => rfl) rfl ?_
          refine OS.pure rfl (fun _ => rfl) rfl ?_
          refine OS.pure rfl (fun _ => rfl) rfl ?_
          refine OS.skip rfl rfl ?_
          refine OS.skip rfl rfl ?_
          refine OS.pure rfl (fun _ => rfl) rfl ?_
          refine OS.pure rfl (fun _ => rfl) rfl ?_
          refine OS.pure rfl (fun _ => rfl) rfl ?_
          refine OS.pure rfl (fun _ => rfl) rfl ?_
          refine OS.pure rfl (fun _ => rfl) rfl ?_
          refine OS.pure rfl (fun _ => rfl) rfl ?_
          refine OS.call noGo rfl (fun _ => rfl) ((jWrites_q).mono ?_)
          rintro v L' ⟨rfl, rfl⟩
          refine ⟨_, rfl, ?_⟩
          refine OS.pure rfl (fun _ => rfl) rfl ?_
          refine OS.pure rfl (e_is (fun _ => rfl) (congrArg Value.bool hww)) rfl ?_
          refine OS.pure rfl (fun _ => rfl) rfl ?_
          refine OS.pure rfl (fun _ => rfl) rfl ?_
          refine OS.nil ?_
          repeat refine LS.seq ?_
          refine LS.cond rfl (fun hc => by cases hc) (fun hc => ?_)
          refine LS.skip ?_
          repeat refine LS.seq ?_
          refine LS.region rfl ?_
          refine OS.pure rfl (fun _ => rfl) rfl ?_
          refine OS.pure rfl (fun _ => rfl) rfl ?_
          refine OS.nil ?_
          repeat refine LS.seq ?_
          refine LS.cond rfl (fun hc => by cases hc) (fun hc => ?_)
          refine LS.skip ?_
          exact ⟨rj, rdj, rd, rb, s', F2, rx, ry, f, g, rfl, hF2, hJ3, hn'.trans hsn, by omega, .inr (by rw [hss]; exact hD), hBf3, hBg3, rfl⟩
        · have hbt : b = false := hb.symm.trans hd
          subst hbt
          have hc0 := hck.eq hk0
          subst hc0
          repeat refine LS.seq ?_
          refine LS.block ?_
          repeat refine LS.seq ?_
          refine LS.region rfl ?_
          refine OS.pure rfl (fun _ => rfl) rfl ?_
          refine OS.pure rfl (fun _ => rfl) rfl ?_
          refine OS.pure rfl (fun _ => rfl) rfl ?_
          refine OS.nil ?_
          refine LS.cond rfl (fun hc => ?_) (fun hc => by cases hc)
          repeat refine LS.seq ?_
          refine LS.region rfl ?_
          refine OS.pure rfl (fun _ => rfl) rfl ?_
          refine OS.call noGo rfl (fun _ => rfl) ((jDead_b hD.dead).mono ?_)
          rintro v L' ⟨rfl, rfl⟩
          refine ⟨_, rfl, ?_⟩
          refine OS.pure rfl (fun _ => rfl) rfl ?_
          refine OS.pure rfl (fun _ => rfl) rfl ?_
          refine OS.pure rfl (fun _ => rfl) rfl ?_
          refine OS.pure rfl (fun _ => rfl) rfl ?_
          refine OS.pure rfl (fun _ => rfl) rfl ?_
          refine OS.pure rfl (fun _ => rfl) rfl ?_
          refine OS.pure rfl (fun _ => rfl) rfl ?_
          refine OS.pure rfl (fun _ => rfl) rfl ?_
          refine OS.pure rfl (fun _ => rfl) rfl ?_
          refine OS.pure rfl (fun _ => rfl) rfl ?_
          refine OS.pure rfl (fun _ => rfl) rfl ?_
          refine OS.pure rfl (fun _ => rfl) rfl ?_
          refine OS.skip rfl rfl ?_
          refine OS.skip rfl rfl ?_
          refine OS.skip rfl rfl ?_
          refine OS.skip rfl rfl ?_
          refine OS.pure rfl (fun _ => rfl) rfl ?_
          refine OS.pure rfl (fun _ => rfl) rfl ?_
          refine OS.nil ?_
          repeat refine LS.seq ?_
          refine LS.cond rfl (fun hc => by cases hc) (fun hc => ?_)
          refine LS.skip ?_
          repeat refine LS.seq ?_
          refine LS.region rfl ?_
          refine OS.pure rfl (fun _ => rfl) rfl ?_
          refine OS.pure rfl (fun _ => rfl) rfl ?_
          refine OS.nil ?_
          repeat refine LS.seq ?_
          refine LS.cond rfl (fun hc => ?_) (fun hc => by cases hc)
          repeat refine LS.seq ?_
          refine LS.region rfl ?_
          refine OS.pure rfl (fun _ => rfl) rfl ?_
          refine OS.pure rfl (fun _ => rfl) rfl ?_
          refine OS.call noGo rfl (fun _ => rfl) ((bBehind_ct (hBf3.mono hq) (hW2.mono hq) (hR2.mono hq) (by omega)).mono ?_)
          rintro v L' ⟨ry', X, rfl, rfl, hBx⟩
          rw [hb2] at hBx
          refine ⟨_, rfl, ?_⟩
          refine OS.sub Sub.up3b ?_
          refine OS.pure rfl (fun _ => rfl) rfl ?_
          refine OS.nil ?_
          exact ⟨rj, rdj, rd, rb, s', X ++ F2, rx, ry', f, behind f ps, rfl, fun p hp => List.mem_append_right _ (hF2 p hp), hJ3.mono fun p hp => List.mem_append_right _ hp, hn'.trans hsn, by omega, .inr hD, hBf3.mono fun p hp => List.mem_append_right _ hp, hBx.mono fun p hp => List.mem_append_left _ hp, rfl⟩
        · have hbt : b = false := hb.symm.trans hd
          subst hbt
          have hc0 := hck.eq hk0
          subst hc0
          have hq20 : ieqB c 20 = false := by rw [ieqB_eq]; simpa using he20
          have hq00 : ieqB c 0 = false := by rw [ieqB_eq]; simpa using he0
          repeat refine LS.seq ?_
          refine LS.block ?_
          repeat refine LS.seq ?_
          refine LS.region rfl ?_
          refine OS.pure rfl (fun _ => rfl) rfl ?_
          refine OS.pure rfl (e_is (fun _ => rfl) (congrArg Value.bool hq20)) rfl ?_
          refine OS.pure rfl (fun _ => rfl) rfl ?_
          refine OS.nil ?_
          refine LS.cond rfl (fun hc => by cases hc) (fun hc => ?_)
          repeat refine LS.seq ?_
          refine LS.region rfl ?_
          refine OS.pure rfl (fun _ => rfl) rfl ?_
          refine OS.pure rfl (fun _ => rfl) rfl ?_
          refine OS.pure rfl (fun _ => rfl) rfl ?_
          refine OS.pure rfl (fun _ => rfl) rfl ?_
          refine OS.pure rfl (e_is (fun _ => rfl) (congrArg Value.bool (ne_self c))) rfl ?_
          refine OS.pure rfl (fun _ => rfl) rfl ?_
          refine OS.pure rfl (fun _ => rfl) rfl ?_
          refine OS.pure rfl (fun _ => rfl) rfl ?_
          refine OS.call noGo rfl (fun _ => rfl) ((jDead_b hA.live).mono ?_)
          rintro v L' ⟨rfl, rfl⟩
          refine ⟨_, rfl, ?_⟩
          refine OS.pure rfl (fun _ => rfl) rfl ?_
          refine OS.pure rfl (fun _ => rfl) rfl ?_
          refine OS.nil ?_
          repeat refine LS.seq ?_
          refine LS.cond rfl (fun hc => by cases hc) (fun hc => ?_)
          repeat refine LS.seq ?_
          refine LS.region rfl ?_
          refine OS.pure rfl (fun _ => rfl) rfl ?_
          refine OS.pure rfl (e_is (fun _ => rfl) (congrArg Value.bool hq00)) rfl ?_
          refine OS.pure rfl (fun _ => rfl) rfl ?_
          refine OS.nil ?_
          repeat refine LS.seq ?_
          refine LS.cond rfl (fun hc => by cases hc) (fun hc => ?_)
          refine LS.skip ?_
          exact ⟨rj, rdj, rd, rb, s', F2, rx, ry, f, g, rfl, hF2, hJ3, hn'.trans hsn, by omega, .inl hA, hBf3, hBg3, rfl⟩
        · have hbt : b = false := hb.symm.trans hd
          subst hbt
          have hc0 := hck.eq hk0
          subst hc0
          have hq1 : (!ileB (((s'.wr : Nat) : Int) - ((s.wr : Nat) : Int)) ((2 * mzs.length + 2 : Nat) : Int)) = false := by rw [ileB_eq]; simp; omega
          have hmul : (2 : Int) * ((mzs.length : Nat) : Int) = ((2 * mzs.length : Nat) : Int) := by omega
          have hadd : ((2 * mzs.length : Nat) : Int) + 2 = ((2 * mzs.length + 2 : Nat) : Int) := by omega
          repeat refine LS.seq ?_
          refine LS.block ?_
          repeat refine LS.seq ?_
          refine LS.region rfl ?_
          refine OS.pure rfl (fun _ => rfl) rfl ?_
          refine OS.pure rfl (fun _ => rfl) rfl ?_
          refine OS.pure rfl (fun _ => rfl) rfl ?_
          refine OS.nil ?_
          refine LS.cond rfl (fun hc => by cases hc) (fun hc => ?_)
          repeat refine LS.seq ?_
          refine LS.region rfl ?_
          refine OS.pure rfl (fun _ => rfl) rfl ?_
          refine OS.pure rfl (fun _ => rfl) rfl ?_
          refine OS.pure rfl (fun _ => rfl) rfl ?_
          refine OS.pure rfl (fun _ => rfl) rfl ?_
          refine OS.pure rfl (fun _ => rfl) rfl ?_
          refine OS.pure rfl (fun _ => rfl) rfl ?_
          refine OS.pure rfl (fun _ => rfl) rfl ?_
          refine OS.pure rfl (fun _ => rfl) rfl ?_
          refine OS.call noGo rfl (fun _ => rfl) ((jDead_b hA.live).mono ?_)
          rintro v L' ⟨rfl, rfl⟩
          refine ⟨_, rfl, ?_⟩
          refine OS.pure rfl (fun _ => rfl) rfl ?_
          refine OS.pure rfl (fun _ => rfl) rfl ?_
          refine OS.nil ?_
          repeat refine LS.seq ?_
          refine LS.cond rfl (fun hc => by cases hc) (fun hc => ?_)
          repeat refine LS.seq ?_
          refine LS.region rfl ?_
          refine OS.pure rfl (fun _ => rfl) rfl ?_
          refine OS.pure rfl (fun _ => rfl) rfl ?_
          refine OS.pure rfl (fun _ => rfl) rfl ?_
          refine OS.nil ?_
          repeat refine LS.seq ?_
          refine LS.cond rfl (fun hc => ?_) (fun hc => by cases hc)
          by_cases h0 : mzs.length = 0
          · have hz0 : ieqB ((mzs.length : Nat) : Int) 0 = true := by rw [ieqB_eq, h0]; rfl
            have hww : (!ieqB ((s'.wr : Nat) : Int) ((s.wr : Nat) : Int)) = false := by rw [hw0 (List.eq_nil_of_length_eq_zero (by omega))]; exact ne_self _
            repeat refine LS.seq ?_
            refine LS.region rfl ?_
            refine OS.pure rfl (fun _ => rfl) rfl ?_
            refine OS.call noGo rfl (fun _ => rfl) ((jWrites_q).mono ?_)
            rintro v L' ⟨rfl, rfl⟩
            refine ⟨_, rfl, ?_⟩
            refine OS.pure rfl (fun _ => rfl) rfl ?_
            refine OS.pure rfl (e_sub (k := .i64) rfl rfl rfl (in_i64 (by omega) (by omega))) rfl ?_
            refine OS.pure rfl (fun _ => rfl) rfl ?_
            refine OS.pure rfl (e_len (hW2.mono (hq (s := s'))) rfl rfl rfl rfl rfl) rfl ?_
            refine OS.pure rfl (e_is (e_mul (k := .i64) (m := 2) (n := ((mzs.length : Nat) : Int)) rfl rfl rfl (in_i64 (by omega) (by omega))) (congrArg (Value.int .i64) hmul)) rfl ?_
            refine OS.pure rfl (e_is (e_add (k := .i64) (m := ((2 * mzs.length : Nat) : Int)) (n := 2) rfl rfl rfl (in_i64 (by omega) (by omega))) (congrArg (Value.int .i64) hadd)) rfl ?_
            refine OS.pure rfl (e_is (fun _ => rfl) (congrArg Value.bool hq1)) rfl ?_
            refine OS.pure rfl (fun _ => rfl) rfl ?_
            refine OS.pure rfl (fun _ => rfl) rfl ?_
            refine OS.pure rfl (e_len (hW2.mono (hq (s := s'))) rfl rfl rfl rfl rfl) rfl ?_
            refine OS.pure rfl (e_is (fun _ => rfl) (congrArg Value.bool hz0)) rfl ?_
            refine OS.pure rfl (fun _ => rfl) rfl ?_
            refine OS.pure rfl (fun _ => rfl) rfl ?_
            refine OS.call noGo rfl (fun _ => rfl) ((jWrites_q).mono ?_)
            rintro v L' ⟨rfl, rfl⟩
            refine ⟨_, rfl, ?_⟩
            refine OS.pure rfl (fun _ => rfl) rfl ?_
            refine OS.pure rfl (e_is (fun _ => rfl) (congrArg Value.bool hww)) rfl ?_
            refine OS.pure rfl (fun _ => rfl) rfl ?_
            refine OS.pure rfl (fun _ => rfl) rfl ?_
            refine OS.nil ?_
            repeat refine LS.seq ?_
            refine LS.cond rfl (fun hc => by cases hc) (fun hc => ?_)
            refine LS.skip ?_
            repeat refine LS.seq ?_
            refine LS.region rfl ?_
            refine OS.pure rfl (fun _ => rfl) rfl ?_
            refine OS.pure rfl (fun _ => rfl) rfl ?_
            refine OS.call noGo rfl (fun _ => rfl) ((bBehind_ct (hBf3.mono hq) (hW2.mono hq) (hR2.mono hq) (by omega)).mono ?_)
            rintro v L' ⟨ry', X, rfl, rfl, hBx⟩
            rw [hb2] at hBx
            refine ⟨_, rfl, ?_⟩
            refine OS.sub Sub.up3b ?_
            refine OS.pure rfl (fun _ => rfl) rfl ?_
            refine OS.nil ?_
            repeat refine LS.seq ?_
            refine LS.region rfl ?_
            refine OS.pure rfl (fun _ => rfl) rfl ?_
            refine OS.pure rfl (fun _ => rfl) rfl ?_
            refine OS.nil ?_
            exact ⟨rj, rdj, rd, rb, s', X ++ F2, ry', ry', behind f ps, behind f ps, rfl, fun p hp => List.mem_append_right _ (hF2 p hp), hJ3.mono fun p hp => List.mem_append_right _ hp, hn'.trans hsn, by omega, .inl hA, hBx.mono fun p hp => List.mem_append_left _ hp, hBx.mono fun p hp => List.mem_append_left _ hp, rfl⟩
          · have hz0 : ieqB ((mzs.length : Nat) : Int) 0 = false := by rw [ieqB_eq]; simp; intro h; exact h0 (by simp [h])
            repeat refine LS.seq ?_
            refine LS.region rfl ?_
            refine OS.pure rfl (fun _ => rfl) rfl ?_
            refine OS.call noGo rfl (fun _ => rfl) ((jWrites_q).mono ?_)
            rintro v L' ⟨rfl, rfl⟩
            refine ⟨_, rfl, ?_⟩
            refine OS.pure rfl (fun _ => rfl) rfl ?_
            refine OS.pure rfl (e_sub (k := .i64) rfl rfl rfl (in_i64 (by omega) (by omega))) rfl ?_
            refine OS.pure rfl (fun _ => rfl) rfl ?_
            refine OS.pure rfl (e_len (hW2.mono (hq (s := s'))) rfl rfl rfl rfl rfl) rfl ?_
            refine OS.pure rfl (e_is (e_mul (k := .i64) (m := 2) (n := ((mzs.length : Nat) : Int)) rfl rfl rfl (in_i64 (by omega) (by omega))) (congrArg (Value.int .i64) hmul)) rfl ?_
            refine OS.pure rfl (e_is (e_add (k := .i64) (m := ((2 * mzs.length : Nat) : Int)) (n := 2) rfl rfl rfl (in_i64 (by omega) (by omega))) (congrArg (Value.int .i64) hadd)) rfl ?_
            refine OS.pure rfl (e_is (fun _ => rfl) (congrArg Value.bool hq1)) rfl ?_
            refine OS.pure rfl (fun _ => rfl) rfl ?_
            refine OS.pure rfl (fun _ => rfl) rfl ?_
            refine OS.pure rfl (e_len (hW2.mono (hq (s := s'))) rfl rfl rfl rfl rfl) rfl ?_
            refine OS.pure rfl (e_is (fun _ => rfl) (congrArg Value.bool hz0)) rfl ?_
            refine OS.pure rfl (fun _ => rfl) rfl ?_
            refine OS.skip rfl rfl ?_
            refine OS.skip rfl rfl ?_
            refine OS.skip rfl rfl ?_
            refine OS.skip rfl rfl ?_
            refine OS.pure rfl (fun _ => rfl) rfl ?_
            refine OS.pure rfl (fun _ => rfl) rfl ?_
            refine OS.nil ?_
            repeat refine LS.seq ?_
            refine LS.cond rfl (fun hc => by cases hc) (fun hc => ?_)
            refine LS.skip ?_
            repeat refine LS.seq ?_
            refine LS.region rfl ?_
            refine OS.pure rfl (fun _ => rfl) rfl ?_
            refine OS.pure rfl (fun _ => rfl) rfl ?_
            refine OS.call noGo rfl (fun _ => rfl) ((bBehind_ct (hBf3.mono hq) (hW2.mono hq) (hR2.mono hq) (by omega)).mono ?_)
            rintro v L' ⟨ry', X, rfl, rfl, hBx⟩
            rw [hb2] at hBx
            refine ⟨_, rfl, ?_⟩
            refine OS.sub Sub.up3b ?_
            refine OS.pure rfl (fun _ => rfl) rfl ?_
            refine OS.nil ?_
            repeat refine LS.seq ?_
            refine LS.region rfl ?_
            refine OS.pure rfl (fun _ => rfl) rfl ?_
            refine OS.pure rfl (fun _ => rfl) rfl ?_
            refine OS.nil ?_
            exact ⟨rj, rdj, rd, rb, s', X ++ F2, ry', ry', behind f ps, behind f ps, rfl, fun p hp => List.mem_append_right _ (hF2 p hp), hJ3.mono fun p hp => List.mem_append_right _ hp, hn'.trans hsn, by omega, .inl hA, hBx.mono fun p hp => List.mem_append_left _ hp, hBx.mono fun p hp => List.mem_append_left _ hp, rfl⟩
      by_cases hk1 : mk = 1
      · subst hk1
        repeat refine LS.seq ?_
        refine LS.block ?_
        repeat refine LS.seq ?_
        refine LS.region rfl ?_
        refine OS.pure rfl (fun _ => rfl) rfl ?_
        refine OS.pure rfl (fun _ => rfl) rfl ?_
        refine OS.nil ?_
        refine LS.cond rfl (fun hc => by cases hc) (fun hc => ?_)
        repeat refine LS.seq ?_
        refine LS.region rfl ?_
        refine OS.pure rfl (fun _ => rfl) rfl ?_
        refine OS.pure rfl (fun _ => rfl) rfl ?_
        refine OS.nil ?_
        refine LS.cond rfl (fun hc => ?_) (fun hc => by cases hc)
        cases mzs with
        | nil =>
          repeat refine LS.seq ?_
          refine LS.region rfl ?_
          refine OS.pure rfl (fun _ => rfl) rfl ?_
          refine OS.read rfl (e_loadm hroq rfl rfl rfl rfl) rfl ?_
          refine OS.pure rfl (e_len hvq rfl rfl rfl rfl rfl) rfl ?_
          refine OS.pure rfl (fun _ => rfl) rfl ?_
          refine OS.nil ?_
          repeat refine LS.seq ?_
          refine LS.cond rfl (fun hc => ?_) (fun hc => by cases hc)
          refine LS.exit ?_
          repeat refine LS.seq ?_
          refine LS.region rfl ?_
          refine OS.pure rfl (fun _ => rfl) rfl ?_
          refine OS.pure rfl (e_add rfl rfl rfl (in_i64 (by omega) (by omega))) rfl ?_
          refine OS.pure rfl (fun _ => rfl) rfl ?_
          refine OS.nil ?_
          exact ⟨i - (k + 1), by omega, k + 1, rfl, by omega, rj, rdj, rd, rb, s, F1, rx, ry, f, g, rfl, hF1, hJ1, hsn, by omega, hst, hBf1, hBg1, rfl⟩
        | cons z zr =>
        have hz0 : ieqB (((z :: zr).length : Nat) : Int) 0 = false := by rw [ieqB_eq]; simp; omega
        have hlz : 1 ≤ (z :: zr).length := by simp
        repeat refine LS.seq ?_
        refine LS.region rfl ?_
        refine OS.pure rfl (fun _ => rfl) rfl ?_
        refine OS.read rfl (e_loadm hroq rfl rfl rfl rfl) rfl ?_
        refine OS.pure rfl (e_len hvq rfl rfl rfl rfl rfl) rfl ?_
        refine OS.pure rfl (e_is (fun _ => rfl) (congrArg Value.bool hz0)) rfl ?_
        refine OS.nil ?_
        repeat refine LS.seq ?_
        refine LS.cond rfl (fun hc => by cases hc) (fun hc => ?_)
        refine LS.skip ?_
        obtain ⟨b, hb⟩ : ∃ b, s.dead = b := ⟨_, rfl⟩
        repeat refine LS.seq ?_
        refine LS.drawn noGo mixed [(0, false), (1, false), (2, false), (3, false), (4, false), (5, false), (6, false), (7, false), (8, true), (9, false), (10, false), (11, false), (12, false), (13, false)] rfl rfl (by kernel_rfl) ?_
        refine ODS.pure rfl rfl (fun _ => rfl) rfl ?_
        refine ODS.read rfl rfl (e_loadm hroq rfl rfl rfl rfl) rfl ?_
        refine ODS.sliceSV (l := 0) (u := 1) hvq hcap rfl rfl rfl rfl rfl rfl rfl rfl rfl rfl hlz (by omega) (fun v1 hv1 => ⟨_, rfl, ?_⟩)
        have hv1 : SV 1 (jq rj rdj rd rb s F1) v1 1 ([z].map fun z => .int .i64 z) := hv1
        obtain ⟨r9, off9, cap9, hv9⟩ : ∃ r off cap, v1 = .slice (some ⟨r, off, none⟩) 1 cap := by
          rcases hv1 with ⟨_, h, _⟩ | ⟨r, off, cap, _, _, h, _⟩
          · cases h
          · exact ⟨r, off, cap, h⟩
        subst hv9
        refine ODS.pure rfl rfl (fun _ => rfl) rfl ?_
        refine ODS.read rfl rfl (e_loadm hroq rfl rfl rfl rfl) rfl ?_
        refine ODS.pure rfl rfl (fun _ => rfl) rfl ?_
        refine ODS.read rfl rfl (e_loadm hroq rfl rfl rfl rfl) rfl ?_
        refine ODS.pure rfl rfl (fun _ => rfl) rfl ?_
        refine ODS.call rfl rfl (fun _ => rfl) ((group_ct (k := 0) (N := 0) hv1 (by omega)).mono ?_)
        rintro v L' ⟨w1, w2, gs1, gs2, Zg, W0, rfl, rfl, hw1, hw2, hRg, hRr, hb1, hb2⟩
        refine ⟨_, rfl, Keep.gone rfl (Keep.gone rfl (Keep.gone rfl (Keep.gone rfl Keep.nil))), ?_⟩
        refine ODS.pure rfl rfl (fun _ => rfl) rfl ?_
        refine ODS.pure rfl rfl (fun _ => rfl) rfl ?_
        refine ODS.pure rfl rfl (fun _ => rfl) rfl ?_
        refine ODS.pure rfl rfl (fun _ => rfl) rfl ?_
        refine ODS.pure rfl rfl (fun _ => rfl) rfl ?_
        refine ODS.nil ?_
        have hgl1 : gs1.length = 1 := by have := congrArg List.length hb1; rwa [bd_len, grp_len (by simp)] at this
        have hb12 := hb2.trans hb1.symm
        obtain ⟨g1, rfl⟩ := List.length_eq_one_iff.1 hgl1
        have hb2 : bd gs2 = [(g1.b, g1.d)] := hb12
        clear hb1 hb12
        repeat refine LS.seq ?_
        refine LS.region rfl ?_
        refine OS.sub Sub.up3 ?_
        have hF2 : ∀ p, p ∈ L0 → p ∈ Zg ++ (W0 ++ F1) := fun p hp => List.mem_append_right _ (List.mem_append_right _ (hF1 p hp))
        have hJ2 : JS (Zg ++ (W0 ++ F1)) rdj rd s := hJ1.mono fun p hp => List.mem_append_right _ (List.mem_append_right _ hp)
        have hS1 : SV 2 (Zg ++ (W0 ++ F1)) w1 1 (gcells [g1]) := hw1.mono fun p hp => List.mem_append_right _ (List.mem_append_left _ hp)
        have hBf3 : BlkAt (Zg ++ (W0 ++ F1)) rx nn f := hBf1.mono fun p hp => List.mem_append_right _ (List.mem_append_right _ hp)
        have hBg3 : BlkAt (Zg ++ (W0 ++ F1)) ry nn g := hBg1.mono fun p hp => List.mem_append_right _ (List.mem_append_right _ hp)
        have hW2 : SV 2 (Zg ++ (W0 ++ F1)) w2 1 (gcells gs2) := hw2.mono fun p hp => List.mem_append_right _ (List.mem_append_left _ hp)
        have hR1 : Reads (Zg ++ (W0 ++ F1)) [g1] := hRg.reads
        have hR2 : Reads (Zg ++ (W0 ++ F1)) gs2 := hRr.mono fun p hp => List.mem_append_right _ (List.mem_append_left _ hp)
        generalize Zg ++ (W0 ++ F1) = F2 at *
        obtain ⟨mg, hSg⟩ := hR1 g1 (List.mem_singleton.2 rfl)
        have hq : ∀ {s}, ∀ p, p ∈ F2 → p ∈ jq rj rdj rd rb s F2 := fun {s} p hp => List.mem_cons_of_mem _ (List.mem_cons_of_mem _ (List.mem_cons_of_mem _ hp))
        obtain ⟨e, s', hraw, hn', hwl, hwu, hcs⟩ := raw_any_step (z := g1.b) (d := g1.d) hst hw8
        refine OS.pure rfl (fun _ => rfl) rfl ?_
        refine OS.call noGo rfl (fun _ => rfl) ((jDead_b hb).mono ?_)
        rintro v L' ⟨rfl, rfl⟩
        refine ⟨_, rfl, ?_⟩
        refine OS.pure rfl (fun _ => rfl) rfl ?_
        refine OS.nil ?_
        repeat refine LS.seq ?_
        refine LS.drawn noGo mixed [(0, false), (1, false), (2, false), (3, false), (4, false), (5, false), (6, false), (7, false), (8, false), (9, true), (10, false)] rfl rfl (by kernel_rfl) ?_
        refine ODS.pure rfl rfl (fun _ => rfl) rfl ?_
        refine ODS.pure rfl rfl (fun _ => rfl) rfl ?_
        refine ODS.at (j := 0) (hS1.mono hq) (by omega) rfl rfl rfl rfl rfl rfl rfl (fun r1 o1 row1 cs1 m1 c1 q1 k1 => ?_)
        refine ⟨_, rfl, ?_⟩
        refine ODS.pure rfl rfl (fun _ => rfl) rfl ?_
        refine ODS.read rfl rfl (e_loadm m1 c1 rfl rfl (part_one rfl (q1 0 _ (by omega) (pc_at (gp [g1]) 0 0 _ (gp_get (g := g1) rfl) (by omega))))) rfl ?_
        refine ODS.pure rfl rfl (fun _ => rfl) rfl ?_
        refine ODS.at (j := 0) (hS1.mono hq) (by omega) rfl rfl rfl rfl rfl rfl rfl (fun r2 o2 row2 cs2 m2 c2 q2 k2 => ?_)
        refine ⟨_, rfl, ?_⟩
        refine ODS.pure rfl rfl (fun _ => rfl) rfl ?_
        refine ODS.read rfl rfl (e_loadm m2 c2 rfl rfl (part_one rfl (q2 1 _ (by omega) (pc_at (gp [g1]) 0 1 _ (gp_get (g := g1) rfl) (by omega))))) rfl ?_
        refine ODS.call rfl rfl (fun _ => rfl) ((jRaw_eq hraw hJ2 hok hSg).mono ?_)
        rintro v L' ⟨rfl, rfl⟩
        refine ⟨_, rfl, Keep.gone rfl (Keep.gone rfl Keep.nil), ?_⟩
        refine ODS.pure rfl rfl (fun _ => rfl) rfl ?_
        refine ODS.nil ?_
        repeat refine LS.seq ?_
        refine LS.region rfl ?_
        refine OS.pure rfl (fun _ => rfl) rfl ?_
        refine OS.pure rfl (fun _ => rfl) rfl ?_
        refine OS.call noGo rfl (fun _ => rfl) ((bCheck_any (hBf3.mono hq) hn0 (hW2.mono hq) (hR2.mono hq)).mono ?_)
        rintro v L' ⟨c, rfl, hck, rfl⟩
        rw [hb2, ← hsn] at hck
        refine ⟨_, rfl, ?_⟩
        refine OS.pure rfl (fun _ => rfl) rfl ?_
        refine OS.nil ?_
        rcases hcs with ⟨rfl, hd', hD, hss⟩ | ⟨hd, rfl, hk0, hA⟩ | ⟨hd, rfl, hk0, hA⟩
        · repeat refine LS.seq ?_
          refine LS.block ?_
          repeat refine LS.seq ?_
          refine LS.region rfl ?_
          refine OS.pure rfl (fun _ => rfl) rfl ?_
          refine OS.pure rfl (fun _ => rfl) rfl ?_
          refine OS.pure rfl (fun _ => rfl) rfl ?_
          refine OS.nil ?_
          refine LS.cond rfl (fun hc => ?_) (fun hc => by cases hc)
          repeat refine LS.seq ?_
          refine LS.region rfl ?_
          refine OS.pure rfl (fun _ => rfl) rfl ?_
          refine OS.call noGo rfl (fun _ => rfl) ((jDead_b hd').mono ?_)
          rintro v L' ⟨rfl, rfl⟩
          refine ⟨_, rfl, ?_⟩
          refine OS.pure rfl (fun _ => rfl) rfl ?_
          refine OS.nil ?_
          repeat refine LS.seq ?_
          refine LS.cond rfl (fun hc => by cases hc) (fun hc => ?_)
          refine LS.skip ?_
          exact ⟨rj, rdj, rd, rb, s', F2, rx, ry, f, g, rfl, hF2, by
            rcases hJ2 with h | ⟨h, rb', s'', h1, h2⟩
            · exact .inl h
            · exact .inr ⟨hd', rb', s'', h1, h2⟩, hn'.trans hsn, by omega, .inr hD, hBf3, hBg3, rfl⟩
        · have hbt : b = false := hb.symm.trans hd
          subst hbt
          have hc0 := hck.eq hk0
          subst hc0
          repeat refine LS.seq ?_
          refine LS.block ?_
          repeat refine LS.seq ?_
          refine LS.region rfl ?_
          refine OS.pure rfl (fun _ => rfl) rfl ?_
          refine OS.pure rfl (fun _ => rfl) rfl ?_
          refine OS.pure rfl (fun _ => rfl) rfl ?_
          refine OS.nil ?_
          refine LS.cond rfl (fun hc => by cases hc) (fun hc => ?_)
          repeat refine LS.seq ?_
          refine LS.region rfl ?_
          refine OS.pure rfl (fun _ => rfl) rfl ?_
          refine OS.pure rfl (fun _ => rfl) rfl ?_
          refine OS.pure rfl (fun _ => rfl) rfl ?_
          refine OS.pure rfl (fun _ => rfl) rfl ?_
          refine OS.pure rfl (fun _ => rfl) rfl ?_
          refine OS.pure rfl (fun _ => rfl) rfl ?_
          refine OS.pure rfl (fun _ => rfl) rfl ?_
          refine OS.pure rfl (fun _ => rfl) rfl ?_
          refine OS.call noGo rfl (fun _ => rfl) ((jDead_b hA.live).mono ?_)
          rintro v L' ⟨rfl, rfl⟩
          refine ⟨_, rfl, ?_⟩
          refine OS.pure rfl (fun _ => rfl) rfl ?_
          refine OS.pure rfl (fun _ => rfl) rfl ?_
          refine OS.nil ?_
          repeat refine LS.seq ?_
          refine LS.cond rfl (fun hc => by cases hc) (fun hc => ?_)
          repeat refine LS.seq ?_
          refine LS.region rfl ?_
          refine OS.pure rfl (fun _ => rfl) rfl ?_
          refine OS.pure rfl (fun _ => rfl) rfl ?_
          refine OS.pure rfl (fun _ => rfl) rfl ?_
          refine OS.nil ?_
          repeat refine LS.seq ?_
          refine LS.cond rfl (fun hc => by cases hc) (fun hc => ?_)
          refine LS.skip ?_
          exact ⟨rj, rdj, rd, rb, s', F2, rx, ry, f, g, rfl, hF2, .inl (hJ2.live hd), hn'.trans hsn, by omega, .inl hA, hBf3, hBg3, rfl⟩
        · have hbt : b = false := hb.symm.trans hd
          subst hbt
          have hc0 := hck.eq hk0
          subst hc0
          repeat refine LS.seq ?_
          refine LS.block ?_
          repeat refine LS.seq ?_
          refine LS.region rfl ?_
          refine OS.pure rfl (fun _ => rfl) rfl ?_
          refine OS.pure rfl (fun _ => rfl) rfl ?_
          refine OS.pure rfl (fun _ => rfl) rfl ?_
          refine OS.nil ?_
          refine LS.cond rfl (fun hc => by cases hc) (fun hc => ?_)
          repeat refine LS.seq ?_
          refine LS.region rfl ?_
          refine OS.pure rfl (fun _ => rfl) rfl ?_
          refine OS.pure rfl (fun _ => rfl) rfl ?_
          refine OS.pure rfl (fun _ => rfl) rfl ?_
          refine OS.pure rfl (fun _ => rfl) rfl ?_
          refine OS.pure rfl (fun _ => rfl) rfl ?_
          refine OS.pure rfl (fun _ => rfl) rfl ?_
          refine OS.pure rfl (fun _ => rfl) rfl ?_
          refine OS.pure rfl (fun _ => rfl) rfl ?_
          refine OS.call noGo rfl (fun _ => rfl) ((jDead_b hA.live).mono ?_)
          rintro v L' ⟨rfl, rfl⟩
          refine ⟨_, rfl, ?_⟩
          refine OS.pure rfl (fun _ => rfl) rfl ?_
          refine OS.pure rfl (fun _ => rfl) rfl ?_
          refine OS.nil ?_
          repeat refine LS.seq ?_
          refine LS.cond rfl (fun hc => by cases hc) (fun hc => ?_)
          repeat refine LS.seq ?_
          refine LS.region rfl ?_
          refine OS.pure rfl (fun _ => rfl) rfl ?_
          refine OS.pure rfl (fun _ => rfl) rfl ?_
          refine OS.pure rfl (fun _ => rfl) rfl ?_
          refine OS.nil ?_
          repeat refine LS.seq ?_
          refine LS.cond rfl (fun hc => ?_) (fun hc => by cases hc)
          repeat refine LS.seq ?_
          refine LS.region rfl ?_
          refine OS.pure rfl (fun _ => rfl) rfl ?_
          refine OS.pure rfl (fun _ => rfl) rfl ?_
          refine OS.call noGo rfl (fun _ => rfl) ((bBehind_ct (hBf3.mono hq) (hW2.mono hq) (hR2.mono hq) (by omega)).mono ?_)
          rintro v L' ⟨ry', X, rfl, rfl, hBx⟩
          rw [hb2] at hBx
          refine ⟨_, rfl, ?_⟩
          refine OS.sub Sub.up3b ?_
          refine OS.pure rfl (fun _ => rfl) rfl ?_
          refine OS.nil ?_
          repeat refine LS.seq ?_
          refine LS.region rfl ?_
          refine OS.pure rfl (fun _ => rfl) rfl ?_
          refine OS.pure rfl (fun _ => rfl) rfl ?_
          refine OS.nil ?_
          exact ⟨rj, rdj, rd, rb, s', X ++ F2, ry', ry', _, _, rfl, fun p hp => List.mem_append_right _ (hF2 p hp), .inl (hJ2.live hd), hn'.trans hsn, by omega, .inl hA, hBx.mono fun p hp => List.mem_append_left _ hp, hBx.mono fun p hp => List.mem_append_left _ hp, rfl⟩
      by_cases hk2 : mk = 2
      · subst hk2
        repeat refine LS.seq ?_
        refine LS.block ?_
        repeat refine LS.seq ?_
        refine LS.region rfl ?_
        refine OS.pure rfl (fun _ => rfl) rfl ?_
        refine OS.pure rfl (fun _ => rfl) rfl ?_
        refine OS.nil ?_
        refine LS.cond rfl (fun hc => by cases hc) (fun hc => ?_)
        repeat refine LS.seq ?_
        refine LS.region rfl ?_
        refine OS.pure rfl (fun _ => rfl) rfl ?_
        refine OS.pure rfl (fun _ => rfl) rfl ?_
        refine OS.nil ?_
        refine LS.cond rfl (fun hc => by cases hc) (fun hc => ?_)
        repeat refine LS.seq ?_
        refine LS.region rfl ?_
        refine OS.pure rfl (fun _ => rfl) rfl ?_
        refine OS.pure rfl (fun _ => rfl) rfl ?_
        refine OS.nil ?_
        refine LS.cond rfl (fun hc => ?_) (fun hc => by cases hc)
        by_cases hN0 : 0 ≤ mN
        case neg =>
          have hq0 : ileB 0 mN = false := by rw [ileB_eq]; simp; omega
          repeat refine LS.seq ?_
          refine LS.region rfl ?_
          refine OS.pure rfl (fun _ => rfl) rfl ?_
          refine OS.read rfl (e_loadm hroq rfl rfl rfl rfl) rfl ?_
          refine OS.pure rfl (e_is (fun _ => rfl) (congrArg Value.bool hq0)) rfl ?_
          refine OS.pure rfl (fun _ => rfl) rfl ?_
          refine OS.skip rfl rfl ?_
          refine OS.skip rfl rfl ?_
          refine OS.skip rfl rfl ?_
          refine OS.pure rfl (fun _ => rfl) rfl ?_
          refine OS.nil ?_
          repeat refine LS.seq ?_
          refine LS.cond rfl (fun hc => by cases hc) (fun hc => ?_)
          refine LS.skip ?_
          exact ⟨rj, rdj, rd, rb, s, F1, rx, ry, f, g, rfl, hF1, hJ1, hsn, by omega, hst, hBf1, hBg1, rfl⟩
        have hq0 : ileB 0 mN = true := ileB_iff.2 hN0
        by_cases hN1 : mN < 1000
        case neg =>
          have hq1 : (!ileB 1000 mN) = false := by rw [ileB_eq]; simp; omega
          repeat refine LS.seq ?_
          refine LS.region rfl ?_
          refine OS.pure rfl (fun _ => rfl) rfl ?_
          refine OS.read rfl (e_loadm hroq rfl rfl rfl rfl) rfl ?_
          refine OS.pure rfl (e_is (fun _ => rfl) (congrArg Value.bool hq0)) rfl ?_
          refine OS.pure rfl (fun _ => rfl) rfl ?_
          refine OS.pure rfl (fun _ => rfl) rfl ?_
          refine OS.read rfl (e_loadm hroq rfl rfl rfl rfl) rfl ?_
          refine OS.pure rfl (e_is (fun _ => rfl) (congrArg Value.bool hq1)) rfl ?_
          refine OS.pure rfl (fun _ => rfl) rfl ?_
          refine OS.nil ?_
          repeat refine LS.seq ?_
          refine LS.cond rfl (fun hc => by cases hc) (fun hc => ?_)
          refine LS.skip ?_
          exact ⟨rj, rdj, rd, rb, s, F1, rx, ry, f, g, rfl, hF1, hJ1, hsn, by omega, hst, hBf1, hBg1, rfl⟩
        have hq1 : (!ileB 1000 mN) = true := by rw [ileB_eq]; simp; omega
        obtain ⟨c, rfl⟩ := Int.eq_ofNat_of_zero_le hN0
        repeat refine LS.seq ?_
        refine LS.region rfl ?_
        refine OS.pure rfl (fun _ => rfl) rfl ?_
        refine OS.read rfl (e_loadm hroq rfl rfl rfl rfl) rfl ?_
        refine OS.pure rfl (e_is (fun _ => rfl) (congrArg Value.bool hq0)) rfl ?_
        refine OS.pure rfl (fun _ => rfl) rfl ?_
        refine OS.pure rfl (fun _ => rfl) rfl ?_
        refine OS.read rfl (e_loadm hroq rfl rfl rfl rfl) rfl ?_
        refine OS.pure rfl (e_is (fun _ => rfl) (congrArg Value.bool hq1)) rfl ?_
        refine OS.pure rfl (fun _ => rfl) rfl ?_
        refine OS.nil ?_
        repeat refine LS.seq ?_
        refine LS.cond rfl (fun hc => ?_) (fun hc => by cases hc)
        rcases hst with hst | hst
        · have hrr := hJ1.live hst.live
          repeat refine LS.seq ?_
          refine LS.region rfl ?_
          refine OS.pure rfl (fun _ => rfl) rfl ?_
          refine OS.pure rfl (fun _ => rfl) rfl ?_
          refine OS.read rfl (e_loadm hroq rfl rfl rfl rfl) rfl ?_
          refine OS.call noGo rfl (fun _ => rfl) ((jCut_q hst.live c (by omega)).mono ?_)
          rintro v L' ⟨rfl, rfl⟩
          refine ⟨_, rfl, ?_⟩
          refine OS.nil ?_
          exact ⟨rj, rdj, rd, rb, _, F1, rx, ry, f, g, rfl, hF1, .inl hrr, hsn, (show s.wr ≤ 400 * (k + 1) by omega), .inl ⟨ok_of hok.1 hok.2.1 hok.2.2.1 hok.2.2.2.1 (by omega), hst.live, hst.idle, hst.hold⟩, hBf1, hBg1, rfl⟩
        · repeat refine LS.seq ?_
          refine LS.region rfl ?_
          refine OS.pure rfl (fun _ => rfl) rfl ?_
          refine OS.pure rfl (fun _ => rfl) rfl ?_
          refine OS.read rfl (e_loadm hroq rfl rfl rfl rfl) rfl ?_
          refine OS.call noGo rfl (fun _ => rfl) ((jCut_dead hst.dead _).mono ?_)
          rintro v L' ⟨rfl, rfl⟩
          refine ⟨_, rfl, ?_⟩
          refine OS.nil ?_
          exact ⟨rj, rdj, rd, rb, _, F1, rx, ry, f, g, rfl, hF1, hJ1, hsn, by omega, .inr hst, hBf1, hBg1, rfl⟩
      have q0 : ieqB ((mk.toNat : Nat) : Int) 0 = false := u8_ne hk0
      have q1 : ieqB ((mk.toNat : Nat) : Int) 1 = false := u8_ne hk1
      have q2 : ieqB ((mk.toNat : Nat) : Int) 2 = false := u8_ne hk2
      obtain ⟨b, hb⟩ : ∃ b, s.dead = b := ⟨_, rfl⟩
      repeat refine LS.seq ?_
      refine LS.block ?_
      repeat refine LS.seq ?_
      refine LS.region rfl ?_
      refine OS.pure rfl (e_is (fun _ => rfl) (congrArg Value.bool q0)) rfl ?_
      refine OS.pure rfl (fun _ => rfl) rfl ?_
      refine OS.nil ?_
      refine LS.cond rfl (fun hc => by cases hc) (fun hc => ?_)
      repeat refine LS.seq ?_
      refine LS.region rfl ?_
      refine OS.pure rfl (e_is (fun _ => rfl) (congrArg Value.bool q1)) rfl ?_
      refine OS.pure rfl (fun _ => rfl) rfl ?_
      refine OS.nil ?_
      refine LS.cond rfl (fun hc => by cases hc) (fun hc => ?_)
      repeat refine LS.seq ?_
      refine LS.region rfl ?_
      refine OS.pure rfl (e_is (fun _ => rfl) (congrArg Value.bool q2)) rfl ?_
      refine OS.pure rfl (fun _ => rfl) rfl ?_
      refine OS.nil ?_
      refine LS.cond rfl (fun hc => by cases hc) (fun hc => ?_)
      repeat refine LS.seq ?_
      refine LS.region rfl ?_
      refine OS.pure rfl (fun _ => rfl) rfl ?_
      refine OS.call noGo rfl (fun _ => rfl) ((jDead_b hb).mono ?_)
      rintro v L' ⟨rfl, rfl⟩
      refine ⟨_, rfl, ?_⟩
      refine OS.nil ?_
      repeat refine LS.seq ?_
      refine LS.mid [1, 4, 5, 11, 13, 14, 15, 16] (fun a L2 => ∃ rd rb s F, L2 = jq rj rdj rd rb s F ∧ (∀ p, p ∈ L0 → p ∈ F) ∧ s.ok ∧ s.dead = false ∧ s.n = nn ∧ s.wr ≤ 400 * k ∧ (Idl s.D ∧ Hold s.D s.n f ∨ ∃ ps, Pnd s.D s.n f g nam ps) ∧ (rdj = rd ∨ ∃ rb' s', s'.dead = true ∧ (rdj, dkRow rb' s') ∈ F) ∧ BlkAt F rx nn f ∧ BlkAt F ry nn g ∧ a = [.chan none, vl, .chan none, .chan none, .bool false, ptr rd, .chan none, .chan none, .chan none, .chan none, .chan none, vn, .chan none, ptr rj, ptr rx, ptr ry, .int .i64 (k : Nat), .chan none, .chan none, .chan none, .chan none, .chan none, .chan none, .chan none, .chan none, .chan none, .chan none, .chan none, .chan none, .chan none, .chan none, .chan none, .chan none, .chan none, .chan none, .chan none, .chan none, .chan none, .chan none, .chan none, .chan none, .chan none, .chan none, .chan none, .chan none, .chan none, .chan none, .chan none, .chan none, .chan none, .chan none, .chan none, .chan none, .chan none, .chan none, .chan none, .chan none, .chan none, .chan none, .chan none, .chan none, .chan none, .chan none, .chan none, .chan none, .chan none, .chan none, .chan none, .chan none, .chan none, .chan none, .chan none, .chan none, .chan none, .chan none, .chan none, .chan none, .chan none, .chan none, .chan none, .chan none, .chan none, .chan none, .chan none, .chan none, .chan none, .chan none, .chan none, .chan none, .chan none, .chan none, .chan none, .chan none, .chan none, .chan none, .chan none, .chan none, .chan none, .chan none, .chan none, .chan none, .chan none, .chan none, .chan none, .chan none, .chan none, .chan none, .chan none, .chan none, .chan none, .chan none, .chan none, .chan none, .chan none, .chan none, .chan none, .chan none, .chan none, .chan none, .chan none, .chan none, .chan none, .chan none, .chan none, .chan none, .chan none, .chan none, .chan none, .chan none, .chan none, .chan none, .chan none, .chan none, .chan none, .chan none, .chan none, .chan none, .chan none, .chan none, .chan none, .chan none, .chan none, .chan none, .chan none, .chan none, .chan none, .chan none, .chan none, .chan none, .chan none, .chan none, .chan none, .chan none, .chan none, .chan none, .chan none, .chan none, .chan none, .chan none, .chan none, .chan none, .chan none, .chan none, .chan none, .chan none, .chan none, .chan none, .chan none, .chan none, .chan none, .chan none, .chan none, .chan none, .chan none, .chan none, .chan none, .chan none, .chan none, .chan none, .chan none, .chan none, .chan none, .chan none, .chan none, .chan none, .chan none, .chan none, .chan none, .chan none, .chan none, .chan none, .chan none, .chan none, .chan none, .chan none, .chan none, .chan none, .chan none, .chan none, .chan none, .chan none, .chan none, .chan none, .chan none, .chan none, .chan none, .chan none, .chan none, .chan none, .chan none, .chan none, .chan none, .chan none, .chan none, .chan none, .chan none, .chan none, .chan none, .chan none, .chan none, .chan none, .chan none, .chan none, .chan none, .chan none, .chan none, .chan none, .chan none, .chan none, .chan none, .chan none, .chan none, .chan none, .chan none, .chan none, .chan none, .chan none, .chan none, .chan none, .chan none, .chan none, .chan none, .chan none, .chan none, .chan none, .chan none, .chan none, .chan none, .chan none, .chan none, .chan none, .chan none, .chan none, .chan none, .chan none, .chan none, .chan none, .chan none, .chan none, .chan none, .chan none, .chan none, .chan none, .chan none, .chan none, .chan none, .chan none, .chan none, .chan none, .chan none, .chan none, .chan none, .chan none, .chan none, .chan none, .chan none, .chan none, .chan none, .chan none, .chan none, .chan none, .chan none, .chan none, .chan none, .chan none, .chan none, .chan none, .chan none, .chan none, .chan none, .chan none, .chan none, .chan none, .chan none, .chan none, .chan none, .chan none, .chan none, .chan none, .chan none, .chan none, .chan none, .chan none, .chan none, .chan none, .chan none, .chan none, .chan none, .chan none, .chan none, .chan none, .chan none, .chan none, .chan none, .chan none, .chan none, .chan none, .chan none, .chan none, .chan none, .chan none, .chan none, .chan none, .chan none, .chan none, .chan none, .chan none, .chan none, .chan none, .chan none, .chan none, .chan none, .chan none, .chan none, .chan none, .chan none, .chan none, .chan none, .chan none, .chan none, .chan none, .chan none, .chan none, .chan none, .chan none, .chan none, .chan none, .chan none, .chan none, .chan none, .chan none, .chan none, .chan none, .chan none, .chan none, .chan none, .chan none, .chan none, .chan none, .chan none, .chan none, .chan none, .chan none, .chan none, .chan none, .chan none, .chan none, .chan none, .chan none, .chan none, .chan none, .chan none, .chan none, .chan none, .chan none, .chan none, .chan none, .chan none, .chan none, .chan none, .chan none, .chan none, .chan none, .chan none, .chan none, .chan none, .chan none, .chan none, .chan none, .chan none, .chan none, .chan none, .chan none, .chan none, .chan none, .chan none, .chan none, .chan none, .chan none, .chan none, .chan none, .chan none, .chan none, .chan none]) ?_ ?_
      · cases b with
        | false =>
          have hA : StA s f := by
            rcases hst with h | h
            · exact h
            · have := h.dead; rw [hb] at this; cases this
          refine LS.cond rfl (fun hc => by cases hc) (fun hc => ?_)
          refine LS.skip ?_
          exact ⟨rd, rb, s, F1, rfl, hF1, hok, hb, hsn, hswr, .inl ⟨hA.idle, hA.hold⟩, .inl (hJ1.live hb), hBf1, hBg1, rfl⟩
        | true =>
          have hD : StD s f g nam := by
            rcases hst with h | h
            · have := h.live; rw [hb] at this; cases this
            · exact h
          obtain ⟨rb2, s2, h1, h2⟩ := hJ1.row (rj := rj) (rb := rb) hb
          have hrow : ∃ rb' s', s'.dead = true ∧ (rdj, dkRow rb' s') ∈ (rd, dkRow rb s) :: (rb, .cells 85 (byteCells s.D)) :: F1 := by
            rcases hJ1 with h | ⟨_, rb', s', h3, h4⟩
            · exact ⟨rb, s, hb, by rw [h]; exact List.mem_cons_self ..⟩
            · exact ⟨rb', s', h3, List.mem_cons_of_mem _ (List.mem_cons_of_mem _ h4)⟩
          have hup : ∀ p, p ∈ F1 → p ∈ (rd, dkRow rb s) :: (rb, .cells 85 (byteCells s.D)) :: F1 := fun p hp => List.mem_cons_of_mem _ (List.mem_cons_of_mem _ hp)
          refine LS.cond rfl (fun hc => ?_) (fun hc => by cases hc)
          repeat refine LS.seq ?_
          refine LS.region rfl ?_
          refine OS.pure rfl (fun _ => rfl) rfl ?_
          refine OS.call noGo rfl (fun _ => rfl) ((jRead_m (List.mem_cons_self ..) h2 h1 _).mono ?_)
          rintro v L' ⟨rfl, rfl⟩
          refine ⟨_, rfl, ?_⟩
          refine OS.pure rfl (fun _ => rfl) rfl ?_
          refine OS.pure rfl (fun _ => rfl) rfl ?_
          refine OS.pure rfl (fun _ => rfl) rfl ?_
          refine OS.pure rfl (fun _ => rfl) rfl ?_
          refine OS.pure rfl (fun _ => rfl) rfl ?_
          refine OS.nil ?_
          repeat refine LS.seq ?_
          refine LS.region rfl ?_
          refine OS.pure rfl (fun _ => rfl) rfl ?_
          refine OS.pure rfl (fun _ => rfl) rfl ?_
          refine OS.pure rfl (fun _ => rfl) rfl ?_
          refine OS.pure rfl (fun _ => rfl) rfl ?_
          refine OS.call noGo rfl (fun _ => rfl) ((full4_ct 1).mono ?_)
          rintro v L' ⟨rf, rfl, rfl⟩
          refine ⟨_, rfl, ?_⟩
          refine OS.call noGo rfl (fun _ => rfl) ((jRaw_m (List.mem_cons_of_mem _ (List.mem_cons_self ..)) (List.mem_cons_of_mem _ h2) h1 _ _).mono ?_)
          rintro v L' ⟨rfl, rfl⟩
          refine ⟨_, rfl, ?_⟩
          refine OS.pure rfl (fun _ => rfl) rfl ?_
          refine OS.pure rfl (fun _ => rfl) rfl ?_
          refine OS.pure rfl (fun _ => rfl) rfl ?_
          refine OS.pure rfl (fun _ => rfl) rfl ?_
          refine OS.call noGo rfl (fun _ => rfl) ((jDo_m (List.mem_cons_of_mem _ (List.mem_cons_self ..)) (List.mem_cons_of_mem _ h2) h1 _).mono ?_)
          rintro v L' ⟨rfl, rfl⟩
          refine ⟨_, rfl, ?_⟩
          refine OS.pure rfl (fun _ => rfl) rfl ?_
          refine OS.pure rfl (fun _ => rfl) rfl ?_
          refine OS.nil ?_
          repeat refine LS.seq ?_
          refine LS.cond rfl (fun hc => by cases hc) (fun hc => ?_)
          refine LS.skip ?_
          repeat refine LS.seq ?_
          refine LS.region rfl ?_
          refine OS.sub (Sub.drop 0 rfl) ?_
          refine OS.pure rfl (fun _ => rfl) rfl ?_
          refine OS.sub (Sub.pulls [2, 2] rfl) ?_
          refine OS.call noGo rfl (fun _ => rfl) ((Reopen_ct hok hb).mono ?_)
          rintro v L' ⟨rd', rb', rfl, rfl⟩
          refine ⟨_, rfl, ?_⟩
          refine OS.sub (Sub.pulls [4] rfl) ?_
          refine OS.pure rfl (fun _ => rfl) rfl ?_
          refine OS.pure rfl (fun _ => rfl) rfl ?_
          refine OS.pure rfl (fun _ => rfl) rfl ?_
          refine OS.pure rfl (fun _ => rfl) rfl ?_
          refine OS.pure rfl (fun _ => rfl) rfl ?_
          refine OS.nil ?_
          repeat refine LS.seq ?_
          refine LS.region rfl ?_
          refine OS.pure rfl (fun _ => rfl) rfl ?_
          refine OS.pure rfl (fun _ => rfl) rfl ?_
          refine OS.nil ?_
          repeat refine LS.seq ?_
          refine LS.cond rfl (fun hc => by cases hc) (fun hc => ?_)
          refine LS.skip ?_
          have hroq2 : ∀ {s'}, (ro, ARow.cells 56 [.int .u8 (mk.toNat : Nat), mv, .int .u8 (mf.toNat : Nat), .bool mo, .int .i64 mN]) ∈ jq rj rdj rd' rb' s' ((rd, dkRow rb s) :: (rb, .cells 85 (byteCells s.D)) :: F1) := fun {s'} => List.mem_cons_of_mem _ (List.mem_cons_of_mem _ (List.mem_cons_of_mem _ (hup _ hro)))
          have hF2 : ∀ p, p ∈ L0 → p ∈ (rd, dkRow rb s) :: (rb, .cells 85 (byteCells s.D)) :: F1 := fun p hp => hup p (hF1 p hp)
          by_cases hN0 : 0 < mN
          case neg =>
            have hq0 : (!ileB mN 0) = false := by rw [ileB_eq]; simp; omega
            repeat refine LS.seq ?_
            refine LS.region rfl ?_
            refine OS.pure rfl (fun _ => rfl) rfl ?_
            refine OS.read rfl (e_loadm hroq2 rfl rfl rfl rfl) rfl ?_
            refine OS.pure rfl (e_is (fun _ => rfl) (congrArg Value.bool hq0)) rfl ?_
            refine OS.pure rfl (fun _ => rfl) rfl ?_
            refine OS.skip rfl rfl ?_
            refine OS.skip rfl rfl ?_
            refine OS.skip rfl rfl ?_
            refine OS.pure rfl (fun _ => rfl) rfl ?_
            refine OS.nil ?_
            repeat refine LS.seq ?_
            refine LS.cond rfl (fun hc => by cases hc) (fun hc => ?_)
            refine LS.skip ?_
            exact ⟨rd', rb', ⟨s.n, s.D, 0, false, 0, false⟩, _, rfl, hF2, ok_of hok.1 hok.2.1 hok.2.2.1 (by decide) (by decide), rfl, hsn, (show 0 ≤ 400 * k by omega), hD.hold, .inr hrow, hBf1.mono hup, hBg1.mono hup, rfl⟩
          have hq0 : (!ileB mN 0) = true := by rw [ileB_eq]; simp; omega
          by_cases hN1 : mN < 1000
          case neg =>
            have hq1 : (!ileB 1000 mN) = false := by rw [ileB_eq]; simp; omega
            repeat refine LS.seq ?_
            refine LS.region rfl ?_
            refine OS.pure rfl (fun _ => rfl) rfl ?_
            refine OS.read rfl (e_loadm hroq2 rfl rfl rfl rfl) rfl ?_
            refine OS.pure rfl (e_is (fun _ => rfl) (congrArg Value.bool hq0)) rfl ?_
            refine OS.pure rfl (fun _ => rfl) rfl ?_
            refine OS.pure rfl (fun _ => rfl) rfl ?_
            refine OS.read rfl (e_loadm hroq2 rfl rfl rfl rfl) rfl ?_
            refine OS.pure rfl (e_is (fun _ => rfl) (congrArg Value.bool hq1)) rfl ?_
            refine OS.pure rfl (fun _ => rfl) rfl ?_
            refine OS.nil ?_
            repeat refine LS.seq ?_
            refine LS.cond rfl (fun hc => by cases hc) (fun hc => ?_)
            refine LS.skip ?_
            exact ⟨rd', rb', ⟨s.n, s.D, 0, false, 0, false⟩, _, rfl, hF2, ok_of hok.1 hok.2.1 hok.2.2.1 (by decide) (by decide), rfl, hsn, (show 0 ≤ 400 * k by omega), hD.hold, .inr hrow, hBf1.mono hup, hBg1.mono hup, rfl⟩
          have hq1 : (!ileB 1000 mN) = true := by rw [ileB_eq]; simp; omega
          obtain ⟨c, rfl⟩ : ∃ c : Nat, mN = ((c + 1 : Nat) : Int) := ⟨(mN - 1).toNat, by omega⟩
          repeat refine LS.seq ?_
          refine LS.region rfl ?_
          refine OS.pure rfl (fun _ => rfl) rfl ?_
          refine OS.read rfl (e_loadm hroq2 rfl rfl rfl rfl) rfl ?_
          refine OS.pure rfl (e_is (fun _ => rfl) (congrArg Value.bool hq0)) rfl ?_
          refine OS.pure rfl (fun _ => rfl) rfl ?_
          refine OS.pure rfl (fun _ => rfl) rfl ?_
          refine OS.read rfl (e_loadm hroq2 rfl rfl rfl rfl) rfl ?_
          refine OS.pure rfl (e_is (fun _ => rfl) (congrArg Value.bool hq1)) rfl ?_
          refine OS.pure rfl (fun _ => rfl) rfl ?_
          refine OS.nil ?_
          repeat refine LS.seq ?_
          refine LS.cond rfl (fun hc => ?_) (fun hc => by cases hc)
          repeat refine LS.seq ?_
          refine LS.region rfl ?_
          refine OS.pure rfl (fun _ => rfl) rfl ?_
          refine OS.pure rfl (fun _ => rfl) rfl ?_
          refine OS.read rfl (e_loadm hroq2 rfl rfl rfl rfl) rfl ?_
          refine OS.pure rfl (e_is (e_sub (k := .i64) (m := ((c + 1 : Nat) : Int)) (n := 1) rfl rfl rfl (in_i64 (by omega) (by omega))) (congrArg (Value.int .i64) (show ((c + 1 : Nat) : Int) - 1 = ((c : Nat) : Int) by omega))) rfl ?_
          refine OS.call noGo rfl (fun _ => rfl) ((jCut_q (s := ⟨s.n, s.D, 0, false, 0, false⟩) rfl c (by omega)).mono ?_)
          rintro v L' ⟨rfl, rfl⟩
          refine ⟨_, rfl, ?_⟩
          refine OS.nil ?_
          exact ⟨rd', rb', ⟨s.n, s.D, 0, true, c, false⟩, _, rfl, hF2, ok_of hok.1 hok.2.1 hok.2.2.1 (by decide) (by omega), rfl, hsn, (show 0 ≤ 400 * k by omega), hD.hold, .inr hrow, hBf1.mono hup, hBg1.mono hup, rfl⟩
      clear hro hroq hvq hF1 hJ1 hBf1 hBg1 hst hsn hswr hok hw8 hb
      rintro a L2 ⟨rd, rb, s, F, rfl, hF, hok, hd, hsn, hswr, hhold, hjr, hBf, hBg, rfl⟩
      have hnx : i - (k + 1) < i - k := by omega
      rcases hhold with ⟨hid, hhd⟩ | ⟨ps, hpn⟩
      · repeat refine LS.seq ?_
        refine LS.region rfl ?_
        refine OS.pure rfl (fun _ => rfl) rfl ?_
        refine OS.sub (Sub.pulls [2, 2] rfl) ?_
        refine OS.call noGo rfl (fun _ => rfl) ((Open_idle hok hd hid).mono ?_)
        rintro v L' ⟨rj', Y, rfl, rfl⟩
        refine ⟨_, rfl, ?_⟩
        refine OS.pure rfl (fun _ => rfl) rfl ?_
        refine OS.pure rfl (fun _ => rfl) rfl ?_
        refine OS.pure rfl (fun _ => rfl) rfl ?_
        refine OS.pure rfl (fun _ => rfl) rfl ?_
        refine OS.pure rfl (fun _ => rfl) rfl ?_
        refine OS.nil ?_
        have hup : ∀ p, p ∈ F → p ∈ Y ++ ((rj, .cells 93 [ptr rdj]) :: F) := fun p hp => List.mem_append_right _ (List.mem_cons_of_mem _ hp)
        generalize Y ++ ((rj, .cells 93 [ptr rdj]) :: F) = F2 at *
        repeat refine LS.seq ?_
        refine LS.region rfl ?_
        refine OS.pure rfl (fun _ => rfl) rfl ?_
        refine OS.pure rfl (fun _ => rfl) rfl ?_
        refine OS.nil ?_
        repeat refine LS.seq ?_
        refine LS.cond rfl (fun hc => by cases hc) (fun hc => ?_)
        refine LS.skip ?_
        repeat refine LS.seq ?_
        refine LS.region rfl ?_
        refine OS.pure rfl (fun _ => rfl) rfl ?_
        refine OS.pure rfl (fun _ => rfl) rfl ?_
        refine OS.pure rfl (fun _ => rfl) rfl ?_
        refine OS.pure rfl (fun _ => rfl) rfl ?_
        refine OS.call noGo rfl (fun _ => rfl) ((jDead_b (rdj := rd) hd).mono ?_)
        rintro v L' ⟨rfl, rfl⟩
        refine ⟨_, rfl, ?_⟩
        refine OS.pure rfl (fun _ => rfl) rfl ?_
        refine OS.nil ?_
        repeat refine LS.seq ?_
        refine LS.cond rfl (fun hc => by cases hc) (fun hc => ?_)
        refine LS.skip ?_
        repeat refine LS.seq ?_
        refine LS.region rfl ?_
        refine OS.pure rfl (fun _ => rfl) rfl ?_
        refine OS.pure rfl (fun _ => rfl) rfl ?_
        refine OS.nil ?_
        repeat refine LS.seq ?_
        refine LS.region rfl ?_
        refine OS.pure rfl (fun _ => rfl) rfl ?_
        refine OS.pure rfl (fun _ => rfl) rfl ?_
        refine OS.pure rfl (fun _ => rfl) rfl ?_
        refine OS.call noGo rfl (fun _ => rfl) ((reads_q (.inl rfl) hok hd (by rw [hsn]; exact hBf.mono hup) (hvn0.mono fun p hp => hup p (hF p hp)) hnaml).mono ?_)
        rintro v L' ⟨b, rfl, hb, rfl⟩
        have hbt := hb.2 hhd.agree
        subst hbt
        refine ⟨_, rfl, ?_⟩
        refine OS.nil ?_
        repeat refine LS.seq ?_
        refine LS.cond rfl (fun hc => ?_) (fun hc => by cases hc)
        repeat refine LS.seq ?_
        refine LS.region rfl ?_
        refine OS.pure rfl (fun _ => rfl) rfl ?_
        refine OS.pure rfl (fun _ => rfl) rfl ?_
        refine OS.nil ?_
        refine LS.exit ?_
        repeat refine LS.seq ?_
        refine LS.region rfl ?_
        refine OS.pure rfl (fun _ => rfl) rfl ?_
        refine OS.pure rfl (e_add rfl rfl rfl (in_i64 (by omega) (by omega))) rfl ?_
        refine OS.pure rfl (fun _ => rfl) rfl ?_
        refine OS.nil ?_
        exact ⟨i - (k + 1), hnx, k + 1, rfl, by omega, rj', rd, rd, rb, s, F2, rx, rx, f, f, rfl, fun p hp => hup p (hF p hp), .inl rfl, hsn, by omega, .inl ⟨hok, hd, hid, hhd⟩, hBf.mono hup, hBf.mono hup, rfl⟩
      · obtain ⟨e, s', hrun, hn', hwl, hwu, hcs⟩ := open_step hok hd hpn (by omega)
        repeat refine LS.seq ?_
        refine LS.region rfl ?_
        refine OS.pure rfl (fun _ => rfl) rfl ?_
        refine OS.sub (Sub.pulls [2, 2] rfl) ?_
        refine OS.call noGo rfl (fun _ => rfl) ((Open_pend hok (by omega) hd hpn.good hpn.len hpn.ne hpn.head hpn.slots).mono ?_)
        rw [hrun]
        rintro v L' ⟨Y, hv⟩
        have hup : ∀ p, p ∈ F → p ∈ Y ++ ((rj, .cells 93 [ptr rdj]) :: F) := fun p hp => List.mem_append_right _ (List.mem_cons_of_mem _ hp)
        rcases hcs with ⟨rfl, hA⟩ | ⟨rfl, hD⟩
        · rcases hv with ⟨_, rj', rfl, rfl⟩ | ⟨h, _⟩
          case inr => exact absurd rfl h
          refine ⟨_, rfl, ?_⟩
          refine OS.pure rfl (fun _ => rfl) rfl ?_
          refine OS.pure rfl (fun _ => rfl) rfl ?_
          refine OS.pure rfl (fun _ => rfl) rfl ?_
          refine OS.pure rfl (fun _ => rfl) rfl ?_
          refine OS.pure rfl (fun _ => rfl) rfl ?_
          refine OS.nil ?_
          generalize Y ++ ((rj, .cells 93 [ptr rdj]) :: F) = F2 at *
          repeat refine LS.seq ?_
          refine LS.region rfl ?_
          refine OS.pure rfl (fun _ => rfl) rfl ?_
          refine OS.pure rfl (fun _ => rfl) rfl ?_
          refine OS.nil ?_
          repeat refine LS.seq ?_
          refine LS.cond rfl (fun hc => by cases hc) (fun hc => ?_)
          refine LS.skip ?_
          repeat refine LS.seq ?_
          refine LS.region rfl ?_
          refine OS.pure rfl (fun _ => rfl) rfl ?_
          refine OS.pure rfl (fun _ => rfl) rfl ?_
          refine OS.pure rfl (fun _ => rfl) rfl ?_
          refine OS.pure rfl (fun _ => rfl) rfl ?_
          refine OS.call noGo rfl (fun _ => rfl) ((jDead_b (rdj := rd) hA.live).mono ?_)
          rintro v L' ⟨rfl, rfl⟩
          refine ⟨_, rfl, ?_⟩
          refine OS.pure rfl (fun _ => rfl) rfl ?_
          refine OS.nil ?_
          repeat refine LS.seq ?_
          refine LS.cond rfl (fun hc => by cases hc) (fun hc => ?_)
          refine LS.skip ?_
          repeat refine LS.seq ?_
          refine LS.region rfl ?_
          refine OS.pure rfl (fun _ => rfl) rfl ?_
          refine OS.pure rfl (fun _ => rfl) rfl ?_
          refine OS.nil ?_
          have hsn' : s'.n = nn := hn'.trans hsn
          repeat refine LS.seq ?_
          refine LS.region rfl ?_
          refine OS.pure rfl (fun _ => rfl) rfl ?_
          refine OS.pure rfl (fun _ => rfl) rfl ?_
          refine OS.pure rfl (fun _ => rfl) rfl ?_
          refine OS.call noGo rfl (fun _ => rfl) ((reads_q (.inl rfl) hA.ok hA.live (by rw [hsn']; exact hBf.mono hup) (hvn0.mono fun p hp => hup p (hF p hp)) hnaml).mono ?_)
          rintro v L' ⟨b, rfl, hb, rfl⟩
          cases b with
          | true =>
            have hag := hb.1 rfl
            have hh : Hold s'.D s'.n f := by rw [hn']; exact agree_back hpn (by rw [← hn']; exact hA.hold) (by rw [← hn']; exact hag)
            refine ⟨_, rfl, ?_⟩
            refine OS.nil ?_
            repeat refine LS.seq ?_
            refine LS.cond rfl (fun hc => ?_) (fun hc => by cases hc)
            repeat refine LS.seq ?_
            refine LS.region rfl ?_
            refine OS.pure rfl (fun _ => rfl) rfl ?_
            refine OS.pure rfl (fun _ => rfl) rfl ?_
            refine OS.nil ?_
            refine LS.exit ?_
            repeat refine LS.seq ?_
            refine LS.region rfl ?_
            refine OS.pure rfl (fun _ => rfl) rfl ?_
            refine OS.pure rfl (e_add rfl rfl rfl (in_i64 (by omega) (by omega))) rfl ?_
            refine OS.pure rfl (fun _ => rfl) rfl ?_
            refine OS.nil ?_
            exact ⟨i - (k + 1), hnx, k + 1, rfl, by omega, rj', rd, rd, rb, s', F2, rx, rx, f, f, rfl, fun p hp => hup p (hF p hp), .inl rfl, hsn', by omega, .inl ⟨hA.ok, hA.live, hA.idle, hh⟩, hBf.mono hup, hBf.mono hup, rfl⟩
          | false =>
            refine ⟨_, rfl, ?_⟩
            refine OS.nil ?_
            repeat refine LS.seq ?_
            refine LS.cond rfl (fun hc => by cases hc) (fun hc => ?_)
            repeat refine LS.seq ?_
            refine LS.region rfl ?_
            refine OS.pure rfl (fun _ => rfl) rfl ?_
            refine OS.pure rfl (fun _ => rfl) rfl ?_
            refine OS.pure rfl (fun _ => rfl) rfl ?_
            refine OS.call noGo rfl (fun _ => rfl) ((reads_q (.inl rfl) hA.ok hA.live (by rw [hsn']; exact hBg.mono hup) (hvn0.mono fun p hp => hup p (hF p hp)) hnaml).mono ?_)
            rintro v L' ⟨b2, rfl, hb2, rfl⟩
            have hbt := hb2.2 hA.hold.agree
            subst hbt
            refine ⟨_, rfl, ?_⟩
            refine OS.nil ?_
            repeat refine LS.seq ?_
            refine LS.cond rfl (fun hc => ?_) (fun hc => by cases hc)
            repeat refine LS.seq ?_
            refine LS.region rfl ?_
            refine OS.pure rfl (fun _ => rfl) rfl ?_
            refine OS.pure rfl (fun _ => rfl) rfl ?_
            refine OS.nil ?_
            refine LS.exit ?_
            repeat refine LS.seq ?_
            refine LS.region rfl ?_
            refine OS.pure rfl (fun _ => rfl) rfl ?_
            refine OS.pure rfl (e_add rfl rfl rfl (in_i64 (by omega) (by omega))) rfl ?_
            refine OS.pure rfl (fun _ => rfl) rfl ?_
            refine OS.nil ?_
            exact ⟨i - (k + 1), hnx, k + 1, rfl, by omega, rj', rd, rd, rb, s', F2, ry, ry, g, g, rfl, fun p hp => hup p (hF p hp), .inl rfl, hsn', by omega, .inl hA, hBg.mono hup, hBg.mono hup, rfl⟩
        · rcases hv with ⟨h, _⟩ | ⟨_, rfl, rfl⟩
          · cases h
          refine ⟨_, rfl, ?_⟩
          refine OS.pure rfl (fun _ => rfl) rfl ?_
          refine OS.pure rfl (fun _ => rfl) rfl ?_
          refine OS.pure rfl (fun _ => rfl) rfl ?_
          refine OS.pure rfl (fun _ => rfl) rfl ?_
          refine OS.pure rfl (fun _ => rfl) rfl ?_
          refine OS.nil ?_
          repeat refine LS.seq ?_
          refine LS.region rfl ?_
          refine OS.pure rfl (fun _ => rfl) rfl ?_
          refine OS.pure rfl (fun _ => rfl) rfl ?_
          refine OS.nil ?_
          repeat refine LS.seq ?_
          refine LS.cond rfl (fun hc => ?_) (fun hc => by cases hc)
          repeat refine LS.seq ?_
          refine LS.region rfl ?_
          refine OS.pure rfl (fun _ => rfl) rfl ?_
          refine OS.call noGo rfl (fun _ => rfl) ((Dead_m (s := s') (List.mem_cons_self ..)).mono ?_)
          rintro v L' ⟨rfl, rfl⟩
          refine ⟨_, rfl, ?_⟩
          rw [show Value.bool s'.dead = Value.bool true from congrArg Value.bool hD.dead]
          refine OS.pure rfl (fun _ => rfl) rfl ?_
          refine OS.nil ?_
          repeat refine LS.seq ?_
          refine LS.cond rfl (fun hc => by cases hc) (fun hc => ?_)
          refine LS.skip ?_
          refine LS.exit ?_
          refine LS.sub (L' := jq rj rdj rd rb s' (Y ++ F)) ⟨[], by simpa using List.perm_middle (l₁ := (rd, dkRow rb s') :: (rb, ARow.cells 85 (byteCells s'.D)) :: Y) (l₂ := F) (a := (rj, ARow.cells 93 [ptr rdj]))⟩ ?_
          repeat refine LS.seq ?_
          refine LS.region rfl ?_
          refine OS.pure rfl (fun _ => rfl) rfl ?_
          refine OS.pure rfl (e_add rfl rfl rfl (in_i64 (by omega) (by omega))) rfl ?_
          refine OS.pure rfl (fun _ => rfl) rfl ?_
          refine OS.nil ?_
          exact ⟨i - (k + 1), hnx, k + 1, rfl, by omega, rj, rdj, rd, rb, s', Y ++ F, rx, ry, f, g, rfl, fun p hp => List.mem_append_right _ (hF p hp), by
            rcases hjr with h | ⟨rb', s'', h1, h2⟩
            · exact .inl h
            · exact .inr ⟨hD.dead, rb', s'', h1, List.mem_append_right _ h2⟩, hn'.trans hsn, by omega, .inr hD, hBf.mono fun p hp => List.mem_append_right _ hp, hBg.mono fun p hp => List.mem_append_right _ hp, rfl⟩
    clear hro hroq hvq hF1 hJ1 hBf1 hBg1 hst hsn hswr hok hw8
    rintro a L2 ⟨rj, rdj, rd, rb, s, F, rx, ry, f, g, rfl, hF, hJS, hsn, hswr, hst, hBf, hBg, rfl⟩
    rcases hst with hst | hst
    · repeat refine LS.seq ?_
      refine LS.region rfl ?_
      refine OS.pure rfl (fun _ => rfl) rfl ?_
      refine OS.call noGo rfl (fun _ => rfl) ((jDead_b hst.live).mono ?_)
      rintro v L' ⟨rfl, rfl⟩
      refine ⟨_, rfl, ?_⟩
      refine OS.pure rfl (fun _ => rfl) rfl ?_
      refine OS.pure rfl (fun _ => rfl) rfl ?_
      refine OS.pure rfl (fun _ => rfl) rfl ?_
      refine OS.pure rfl (fun _ => rfl) rfl ?_
      refine OS.pure rfl (fun _ => rfl) rfl ?_
      refine OS.call noGo rfl (fun _ => rfl) ((reads_q hJS hst.ok hst.live (by rw [hsn]; exact hBf) (hvn0.mono hF) hnaml).mono ?_)
      rintro v L' ⟨b, rfl, hb, rfl⟩
      have hbt := hb.2 hst.hold.agree
      subst hbt
      refine ⟨_, rfl, ?_⟩
      refine OS.pure rfl (fun _ => rfl) rfl ?_
      refine OS.pure rfl (fun _ => rfl) rfl ?_
      refine OS.nil ?_
      repeat refine LS.seq ?_
      refine LS.cond rfl (fun hc => by cases hc) (fun hc => ?_)
      refine LS.skip ?_
      repeat refine LS.seq ?_
      refine LS.region rfl ?_
      refine OS.pure rfl (fun _ => rfl) rfl ?_
      refine OS.pure rfl (e_add rfl rfl rfl (in_i64 (by omega) (by omega))) rfl ?_
      refine OS.pure rfl (fun _ => rfl) rfl ?_
      refine OS.nil ?_
      exact ⟨i - (k + 1), by omega, k + 1, rfl, by omega, rj, rdj, rd, rb, s, F, rx, ry, f, g, rfl, hF, hJS, hsn, hswr, .inl hst, hBf, hBg, rfl⟩
    · repeat refine LS.seq ?_
      refine LS.region rfl ?_
      refine OS.pure rfl (fun _ => rfl) rfl ?_
      refine OS.call noGo rfl (fun _ => rfl) ((jDead_b hst.dead).mono ?_)
      rintro v L' ⟨rfl, rfl⟩
      refine ⟨_, rfl, ?_⟩
      refine OS.pure rfl (fun _ => rfl) rfl ?_
      refine OS.pure rfl (fun _ => rfl) rfl ?_
      refine OS.skip rfl rfl ?_
      refine OS.skip rfl rfl ?_
      refine OS.skip rfl rfl ?_
      refine OS.skip rfl rfl ?_
      refine OS.skip rfl rfl ?_
      refine OS.pure rfl (fun _ => rfl) rfl ?_
      refine OS.nil ?_
      repeat refine LS.seq ?_
      refine LS.cond rfl (fun hc => by cases hc) (fun hc => ?_)
      refine LS.skip ?_
      repeat refine LS.seq ?_
      refine LS.region rfl ?_
      refine OS.pure rfl (fun _ => rfl) rfl ?_
      refine OS.pure rfl (e_add rfl rfl rfl (in_i64 (by omega) (by omega))) rfl ?_
      refine OS.pure rfl (fun _ => rfl) rfl ?_
      refine OS.nil ?_
      exact ⟨i - (k + 1), by omega, k + 1, rfl, by omega, rj, rdj, rd, rb, s, F, rx, ry, f, g, rfl, hF, hJS, hsn, hswr, .inr hst, hBf, hBg, rfl⟩
  refine LS.exit ?_
  repeat refine LS.seq ?_
  refine LS.region rfl ?_
  refine OS.call noGo rfl (fun _ => rfl) ((awake_ct).mono ?_)
  rintro v L' ⟨rfl, rfl⟩
  refine ⟨_, rfl, ?_⟩
  refine OS.pure rfl (fun _ => rfl) rfl ?_
  refine OS.nil ?_
  refine LS.ret ⟨_, fun _ _ => rfl, ?_⟩
  rfl
end Go.Proofs.Ythfgjedcmhllfaa
