/- Layer 4: the document's blocks: New, Plain, At, Behind. -/
import Derived.Test.YthfgjedcmhllfaaMp
import Derived.Test.YthfgjedcmhllfaaJc
namespace Go.Am
variable {P : Program} {o : Oper} {a : Slots} {L L₁ : RL} {x y z : Operand} {t : TypeId}
theorem e_lookupm {k v : Value} {ok : Bool} {r clock : Nat} {es : List MapEntry} {kt et : TypeId} (hm : (r, .map es clock) ∈ L) (ho : o.op = .lookup t x y ok) (hx : aev a x = some (.map (some r))) (hy : aev a y = some k) (ht : P.underlying t = some (.map kt et)) (hk : isKeyB P kt k = true)
    (hf : (match findB k es 0 with | some (some (_, v)) => some (okTuple ok v true) | some none => (match zeroVB P et with | some z => some (okTuple ok z false) | none => none) | none => none) = some v) :
    ∀ h, Has h L → opB P a o h = some (.val v h) := by
  intro h H
  have hg : h.get r = some (.map es clock) := H.get _ hm
  have e : lookupB P t (.map (some r)) k ok h = some v := by
    unfold lookupB entriesB
    simp only [ht, hk, hg]
    exact hf
  simp only [opB, ho, hx, hy, e, ret]
theorem e_rangem {r clock : Nat} {es : List MapEntry} {kt et : TypeId} (hm : (r, .map es clock) ∈ L) (ho : o.op = .range t x) (hx : aev a x = some (.map (some r))) (ht : P.underlying t = some (.map kt et)) :
    ∀ h, Has h L → ∃ q h₁, opB P a o h = some (.val (.pointer (some ⟨q, 0, none⟩)) h₁) ∧ Has h₁ ((q, .iter r clock [] clock) :: L) := by
  intro h H
  obtain ⟨h₁, e₁⟩ := h.new_some (.iter r clock [] clock)
  refine ⟨h.next, h₁, ?_, H.new e₁⟩
  have hg : h.get r = some (.map es clock) := H.get _ hm
  simp only [opB, ho, hx, rangeB, ht, hg, e₁, retRow, ptrTo]
theorem e_entrym (i : Nat) {r m since clock n : Nat} {seen : List Nat} {es : List MapEntry} {e : MapEntry} (hm : (m, .map es clock) ∈ L) (ho : o.op = .entry x) (hx : aev a x = some (.pointer (some ⟨r, 0, none⟩))) (hL : L[i]? = some (r, .iter m since (seen ++ [n]) clock)) (hb : bornB n es = some e) :
    ∀ h, Has h L → opB P a o h = some (.val (.tuple #[e.key, e.val]) h) := by
  intro h H
  have h1 := H.at hL
  have h2 : h.get m = some (.map es clock) := H.get _ hm
  have h3 : lastN (seen ++ [n]) = some n := by rw [lastN_eq]; simp
  have h4 : Nat.beq clock clock = true := beq_true rfl
  simp only [opB, ho, hx, entryB, h1, h2, h3, h4, hb, ret]
theorem OS.nextm {ops rest : List Oper} {K : Slots → RL → Prop} (i : Nat) {r m since last clock : Nat} {seen : List Nat} {es : List MapEntry} (hM : (m, .map es clock) ∈ L) (hw : wantedB ops o a = true) (ho : o.op = .next x false) (hx : aev a x = some (.pointer (some ⟨r, 0, none⟩)))
    (hL : L[i]? = some (r, .iter m since seen last)) (hold : ∀ e ∈ es, e.born < since) (hsl : since ≤ last)
    (kdone : (∀ e ∈ es, e.born ∈ seen) → ∃ a₁, putAt a o.dst (.tuple #[.bool false]) = some a₁ ∧ OS P ops rest a₁ L K)
    (kstep : ∀ e ∈ es, e.born ∉ seen → ∃ a₁, putAt a o.dst (.tuple #[.bool true, e.key, e.val]) = some a₁ ∧ ∃ L₁, setL L i (r, .iter m since (seen ++ [e.born]) clock) = some L₁ ∧ OS P ops rest a₁ L₁ K) : OS P ops (o :: rest) a L K := fun h H =>
  OQ.next hw ho hx (H.at hL) (H.get _ hM) hold hsl (fun hd => let ⟨a₁, e, k⟩ := kdone hd; ⟨a₁, e, k h H⟩) (fun e he hn => by
    obtain ⟨a₁, ep, L₁, hs, k⟩ := kstep e he hn
    obtain ⟨h₁, e₁⟩ := h.put_some r (some (.iter m since (seen ++ [e.born]) clock))
    have := setL_eq hs
    subst this
    exact ⟨a₁, h₁, ep, e₁, k h₁ (H.put hL e₁)⟩)
theorem bornB_of : ∀ {es : List MapEntry} {e : MapEntry}, (∀ (i j : Nat) (e e' : MapEntry), es[i]? = some e → es[j]? = some e' → e.born = e'.born → i = j) → e ∈ es → bornB e.born es = some e
  | [], e, _, he => by cases he
  | x :: es, e, hu, he => by
    simp only [bornB]
    cases hb : Nat.beq x.born e.born with
    | true =>
      have hb := of_beq hb
      obtain ⟨j, hj, hje⟩ := List.getElem_of_mem he
      have := hu 0 j x e rfl (by rw [List.getElem?_eq_getElem hj, hje]) hb
      subst this
      simp at hje
      simp [hje]
    | false =>
      rcases List.mem_cons.1 he with rfl | he
      · rw [beq_true rfl] at hb; cases hb
      · exact bornB_of (fun i j e e' h1 h2 h3 => by have := hu (i + 1) (j + 1) e e' (by simpa using h1) (by simpa using h2) h3; omega) he
end Go.Am
namespace Go.Proofs.Ythfgjedcmhllfaa
open Go.Am
set_option linter.unusedVariables false
set_option maxRecDepth 20000

abbrev F04 := Int → Option (List UInt8)
abbrev bxRow (n rm : Nat) : ARow := .cells 96 [.int .i64 (n : Nat), .map (some rm)]
/-- The document's blocks stand there. -/
def BlkAt (L : RL) (r n : Nat) (f : F04) : Prop := ∃ rm es clock, (r, bxRow n rm) ∈ L ∧ (rm, .map es clock) ∈ L ∧ Fm es clock f
theorem BlkAt.mono {L L' : RL} {r n : Nat} {f : F04} (h : BlkAt L r n f) (hm : ∀ p, p ∈ L → p ∈ L') : BlkAt L' r n f := by
  obtain ⟨rm, es, c, h1, h2, h3⟩ := h
  exact ⟨rm, es, c, hm _ h1, hm _ h2, h3⟩
abbrev z256 : List UInt8 := List.replicate 256 0

theorem bNew_ct {L : RL} (n : Nat) : CS Try.prog 31 [.int .i64 (n : Nat)] L fun v L' => ∃ rx rm, v = ptr rx ∧ L' = (rx, bxRow n rm) :: (rm, .map [] 0) :: L := by
  refine CS.mk (fn := Try.f31) rfl rfl rfl rfl ?_
  repeat refine LS.seq ?_
  refine LS.region rfl ?_
  refine OS.pure rfl (fun _ => rfl) rfl ?_
  refine OS.nil ?_
  repeat refine LS.seq ?_
  refine LS.region rfl ?_
  refine OS.pure rfl (fun _ => rfl) rfl ?_
  refine OS.fresh rfl (e_makeMap rfl rfl rfl) (fun _ => rfl) (fun rm => ?_)
  refine OS.pure rfl (fun _ => rfl) rfl ?_
  refine OS.fresh rfl (e_new (fun _ => rfl) rfl) (fun _ => rfl) (fun rx => ?_)
  refine OS.pure rfl (fun _ => rfl) rfl ?_
  refine OS.nil ?_
  refine LS.ret ⟨_, fun _ _ => rfl, ?_⟩
  exact ⟨rx, rm, rfl, rfl⟩

theorem bPlain_ct {L : RL} {r n : Nat} {f : F04} (hx : BlkAt L r n f) (hn : 512 ≤ n) (i : Int) : CS Try.prog 51 [ptr r, .int .i64 i] L fun v L' => v = .bool (decide (plainP n i)) ∧ L' = L := by
  obtain ⟨rm, es, c, hr, _, _⟩ := hx
  by_cases h0 : 0 ≤ i
  case neg =>
    have q0 : ileB 0 i = false := by rw [ileB_eq]; simpa using h0
    refine CS.mk (fn := Try.f51) rfl rfl rfl rfl ?_
    repeat refine LS.seq ?_
    refine LS.region rfl ?_
    refine OS.pure rfl (fun _ => rfl) rfl ?_
    refine OS.nil ?_
    repeat refine LS.seq ?_
    refine LS.region rfl ?_
    refine OS.pure rfl (fun _ => rfl) rfl ?_
    refine OS.pure rfl (e_is (fun _ => rfl) (congrArg Value.bool q0)) rfl ?_
    refine OS.pure rfl (fun _ => rfl) rfl ?_
    refine OS.skip rfl rfl ?_
    refine OS.skip rfl rfl ?_
    refine OS.skip rfl rfl ?_
    refine OS.skip rfl rfl ?_
    refine OS.skip rfl rfl ?_
    refine OS.skip rfl rfl ?_
    refine OS.pure rfl (fun _ => rfl) rfl ?_
    refine OS.pure rfl (fun _ => rfl) rfl ?_
    refine OS.skip rfl rfl ?_
    refine OS.skip rfl rfl ?_
    refine OS.skip rfl rfl ?_
    refine OS.skip rfl rfl ?_
    refine OS.skip rfl rfl ?_
    refine OS.skip rfl rfl ?_
    refine OS.pure rfl (fun _ => rfl) rfl ?_
    refine OS.pure rfl (fun _ => rfl) rfl ?_
    refine OS.nil ?_
    refine LS.ret ⟨_, fun _ _ => rfl, ?_⟩
    exact ⟨by simp only [tupleB]; congr 1; symm; apply decide_eq_false; unfold plainP; omega, rfl⟩
  have q0 : ileB 0 i = true := ileB_iff.2 h0
  by_cases h1 : i < n
  case neg =>
    have q1 : (!ileB (n : Nat) i) = false := by rw [ileB_eq]; simp; omega
    refine CS.mk (fn := Try.f51) rfl rfl rfl rfl ?_
    repeat refine LS.seq ?_
    refine LS.region rfl ?_
    refine OS.pure rfl (fun _ => rfl) rfl ?_
    refine OS.nil ?_
    repeat refine LS.seq ?_
    refine LS.region rfl ?_
    refine OS.pure rfl (fun _ => rfl) rfl ?_
    refine OS.pure rfl (e_is (fun _ => rfl) (congrArg Value.bool q0)) rfl ?_
    refine OS.pure rfl (fun _ => rfl) rfl ?_
    refine OS.pure rfl (fun _ => rfl) rfl ?_
    refine OS.pure rfl (fun _ => rfl) rfl ?_
    refine OS.pure rfl (fun _ => rfl) rfl ?_
    refine OS.pure rfl (fun _ => rfl) rfl ?_
    refine OS.read rfl (e_loadm hr rfl rfl rfl rfl) rfl ?_
    refine OS.pure rfl (e_is (fun _ => rfl) (congrArg Value.bool q1)) rfl ?_
    refine OS.pure rfl (fun _ => rfl) rfl ?_
    refine OS.pure rfl (fun _ => rfl) rfl ?_
    refine OS.skip rfl rfl ?_
    refine OS.skip rfl rfl ?_
    refine OS.skip rfl rfl ?_
    refine OS.skip rfl rfl ?_
    refine OS.skip rfl rfl ?_
    refine OS.skip rfl rfl ?_
    refine OS.pure rfl (fun _ => rfl) rfl ?_
    refine OS.pure rfl (fun _ => rfl) rfl ?_
    refine OS.nil ?_
    refine LS.ret ⟨_, fun _ _ => rfl, ?_⟩
    exact ⟨by simp only [tupleB]; congr 1; symm; apply decide_eq_false; unfold plainP; omega, rfl⟩
  have q1 : (!ileB (n : Nat) i) = true := by rw [ileB_eq]; simp; omega
  by_cases h2 : i = 0
  case pos =>
    subst h2
    refine CS.mk (fn := Try.f51) rfl rfl rfl rfl ?_
    repeat refine LS.seq ?_
    refine LS.region rfl ?_
    refine OS.pure rfl (fun _ => rfl) rfl ?_
    refine OS.nil ?_
    repeat refine LS.seq ?_
    refine LS.region rfl ?_
    refine OS.pure rfl (fun _ => rfl) rfl ?_
    refine OS.pure rfl (fun _ => rfl) rfl ?_
    refine OS.pure rfl (fun _ => rfl) rfl ?_
    refine OS.pure rfl (fun _ => rfl) rfl ?_
    refine OS.pure rfl (fun _ => rfl) rfl ?_
    refine OS.pure rfl (fun _ => rfl) rfl ?_
    refine OS.pure rfl (fun _ => rfl) rfl ?_
    refine OS.read rfl (e_loadm hr rfl rfl rfl rfl) rfl ?_
    refine OS.pure rfl (e_is (fun _ => rfl) (congrArg Value.bool q1)) rfl ?_
    refine OS.pure rfl (fun _ => rfl) rfl ?_
    refine OS.pure rfl (fun _ => rfl) rfl ?_
    refine OS.pure rfl (fun _ => rfl) rfl ?_
    refine OS.pure rfl (fun _ => rfl) rfl ?_
    refine OS.pure rfl (fun _ => rfl) rfl ?_
    refine OS.skip rfl rfl ?_
    refine OS.skip rfl rfl ?_
    refine OS.pure rfl (fun _ => rfl) rfl ?_
    refine OS.pure rfl (fun _ => rfl) rfl ?_
    refine OS.pure rfl (fun _ => rfl) rfl ?_
    refine OS.nil ?_
    refine LS.ret ⟨_, fun _ _ => rfl, ?_⟩
    exact ⟨by simp [tupleB, plainP], rfl⟩
  have q2 : ieqB i 0 = false := by rw [ieqB_eq]; simpa using h2
  have q3 : (!ileB i 121) = decide (121 < i) := by rw [ileB_eq]; by_cases h : 121 < i <;> simp [h] <;> omega
  refine CS.mk (fn := Try.f51) rfl rfl rfl rfl ?_
  repeat refine LS.seq ?_
  refine LS.region rfl ?_
  refine OS.pure rfl (fun _ => rfl) rfl ?_
  refine OS.nil ?_
  repeat refine LS.seq ?_
  refine LS.region rfl ?_
  refine OS.pure rfl (fun _ => rfl) rfl ?_
  refine OS.pure rfl (e_is (fun _ => rfl) (congrArg Value.bool q0)) rfl ?_
  refine OS.pure rfl (fun _ => rfl) rfl ?_
  refine OS.pure rfl (fun _ => rfl) rfl ?_
  refine OS.pure rfl (fun _ => rfl) rfl ?_
  refine OS.pure rfl (fun _ => rfl) rfl ?_
  refine OS.pure rfl (fun _ => rfl) rfl ?_
  refine OS.read rfl (e_loadm hr rfl rfl rfl rfl) rfl ?_
  refine OS.pure rfl (e_is (fun _ => rfl) (congrArg Value.bool q1)) rfl ?_
  refine OS.pure rfl (fun _ => rfl) rfl ?_
  refine OS.pure rfl (fun _ => rfl) rfl ?_
  refine OS.pure rfl (fun _ => rfl) rfl ?_
  refine OS.pure rfl (e_is (fun _ => rfl) (congrArg Value.bool q2)) rfl ?_
  refine OS.pure rfl (fun _ => rfl) rfl ?_
  refine OS.pure rfl (fun _ => rfl) rfl ?_
  refine OS.pure rfl (e_is (fun _ => rfl) (congrArg Value.bool q3)) rfl ?_
  refine OS.pure rfl (fun _ => rfl) rfl ?_
  refine OS.pure rfl (fun _ => rfl) rfl ?_
  refine OS.pure rfl (fun _ => rfl) rfl ?_
  refine OS.nil ?_
  refine LS.ret ⟨_, fun _ _ => rfl, ?_⟩
  refine ⟨?_, rfl⟩
  simp only [tupleB]
  congr 1
  by_cases h : 121 < i
  · rw [decide_eq_true h, decide_eq_true (show plainP n i from .inr ⟨h, h1⟩)]
  · rw [decide_eq_false h, decide_eq_false (show ¬ plainP n i by unfold plainP; omega)]

theorem bAt_ct {L : RL} {r n : Nat} {f : F04} (hx : BlkAt L r n f) (i : Int) : CS Try.prog 53 [ptr r, .int .i64 i] L fun v L' => v = .string ⟨⟨(f i).getD z256⟩⟩ ∧ L' = L := by
  obtain ⟨rm, es, c, hr, hm, hF⟩ := hx
  rcases hF.get i with ⟨hf, hn⟩ | ⟨d, j, hf, hn⟩
  · rw [hf]
    refine CS.mk (fn := Try.f53) rfl rfl rfl rfl ?_
    repeat refine LS.seq ?_
    refine LS.region rfl ?_
    refine OS.pure rfl (fun _ => rfl) rfl ?_
    refine OS.nil ?_
    repeat refine LS.seq ?_
    refine LS.region rfl ?_
    refine OS.pure rfl (fun _ => rfl) rfl ?_
    refine OS.pure rfl (fun _ => rfl) rfl ?_
    refine OS.pure rfl (fun _ => rfl) rfl ?_
    refine OS.read rfl (e_loadm hr rfl rfl rfl rfl) rfl ?_
    refine OS.pure rfl (fun _ => rfl) rfl ?_
    refine OS.read rfl (e_lookupm (v := .tuple #[.string ⟨⟨[]⟩⟩, .bool false]) hm rfl rfl rfl rfl rfl (by rw [hn]; rfl)) rfl ?_
    refine OS.pure rfl (fun _ => rfl) rfl ?_
    refine OS.pure rfl (fun _ => rfl) rfl ?_
    refine OS.pure rfl (fun _ => rfl) rfl ?_
    refine OS.pure rfl (fun _ => rfl) rfl ?_
    refine OS.pure rfl (fun _ => rfl) rfl ?_
    refine OS.nil ?_
    repeat refine LS.seq ?_
    refine LS.region rfl ?_
    refine OS.pure rfl (fun _ => rfl) rfl ?_
    refine OS.pure rfl (fun _ => rfl) rfl ?_
    refine OS.nil ?_
    refine LS.cond rfl (fun hc => ?_) (fun hc => by cases hc)
    repeat refine LS.seq ?_
    refine LS.region rfl ?_
    refine OS.fresh rfl (e_make (l := 256) (c := 256) rfl rfl rfl makeT_bytes (Nat.le_refl _) (by omega) (by omega)) (fun _ => rfl) (fun rz => ?_)
    rw [repL_u8]
    refine OS.read rfl (e_textSV (n := 256) (bs := z256) (SV.row (e := 5) (r := rz) (List.mem_cons_self ..) (by rw [byteCells_len, List.length_replicate])) rfl rfl rfl rfl rfl) rfl ?_
    refine OS.pure rfl (fun _ => rfl) rfl ?_
    refine OS.sub (Sub.drop 0 rfl) ?_
    refine OS.nil ?_
    refine LS.ret ⟨_, fun _ _ => rfl, ?_⟩
    exact ⟨rfl, rfl⟩
  · rw [hf]
    refine CS.mk (fn := Try.f53) rfl rfl rfl rfl ?_
    repeat refine LS.seq ?_
    refine LS.region rfl ?_
    refine OS.pure rfl (fun _ => rfl) rfl ?_
    refine OS.nil ?_
    repeat refine LS.seq ?_
    refine LS.region rfl ?_
    refine OS.pure rfl (fun _ => rfl) rfl ?_
    refine OS.pure rfl (fun _ => rfl) rfl ?_
    refine OS.pure rfl (fun _ => rfl) rfl ?_
    refine OS.read rfl (e_loadm hr rfl rfl rfl rfl) rfl ?_
    refine OS.pure rfl (fun _ => rfl) rfl ?_
    refine OS.read rfl (e_lookupm (v := .tuple #[.string ⟨⟨d⟩⟩, .bool true]) hm rfl rfl rfl rfl rfl (by rw [hn]; rfl)) rfl ?_
    refine OS.pure rfl (fun _ => rfl) rfl ?_
    refine OS.pure rfl (fun _ => rfl) rfl ?_
    refine OS.pure rfl (fun _ => rfl) rfl ?_
    refine OS.pure rfl (fun _ => rfl) rfl ?_
    refine OS.pure rfl (fun _ => rfl) rfl ?_
    refine OS.nil ?_
    repeat refine LS.seq ?_
    refine LS.region rfl ?_
    refine OS.pure rfl (fun _ => rfl) rfl ?_
    refine OS.pure rfl (fun _ => rfl) rfl ?_
    refine OS.nil ?_
    refine LS.cond rfl (fun hc => by cases hc) (fun hc => ?_)
    refine LS.skip ?_
    repeat refine LS.seq ?_
    refine LS.region rfl ?_
    refine OS.pure rfl (fun _ => rfl) rfl ?_
    refine OS.pure rfl (fun _ => rfl) rfl ?_
    refine OS.nil ?_
    refine LS.ret ⟨_, fun _ _ => rfl, ?_⟩
    exact ⟨rfl, rfl⟩
end Go.Proofs.Ythfgjedcmhllfaa
