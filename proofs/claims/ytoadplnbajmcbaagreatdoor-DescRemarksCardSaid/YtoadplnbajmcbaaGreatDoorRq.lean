/- Layer 12: the builder with which a printer begins. -/
import Derived.Test.YtoadplnbajmcbaaGreatDoorRp
namespace Go.Am
section
variable {P : Program} {o : Oper} {a : Slots} {L L₁ : RL}
theorem e_append_txt (i : Nat) {c : Call} {e : TypeId} {bts len n r off : Nat} {s : List UInt8} {old cs : List Value} (ho : o.op = .call c) (hT : appT P c = some (e, 1, bts)) (ha : evs a c.args.toList = some [.slice (some ⟨r, off, none⟩) len openCap, .string ⟨⟨s⟩⟩])
    (hn : n = s.length) (hsm : (len + n) * bts ≤ 140737488355328) (hsm2 : len + n ≤ 140737488355328) (hL : L[i]? = some (r, .cells e cs)) (hcut : cut cs off (len * 1) = some old) (hd : dropL L i = some L₁) :
    ∀ h, Has h L → ∃ r' h₁, opB P a o h = some (.val (.slice (some ⟨r', 0, none⟩) (len + n) openCap) h₁) ∧ Has h₁ ((r', .cells e (old ++ byteCells s)) :: L₁) :=
  e_append i ho hT ha (by rw [hn]; rfl) (first_text hn) (by rw [byteCells_one]; rfl) hsm hsm2 hL hcut hd
theorem e_append0_txt {c : Call} {e : TypeId} {bts n : Nat} {s : List UInt8} (ho : o.op = .call c) (hT : appT P c = some (e, 1, bts)) (ha : evs a c.args.toList = some [.slice none 0 0, .string ⟨⟨s⟩⟩]) (hn : n = s.length)
    (hsm : n * bts ≤ 140737488355328) (hsm2 : n ≤ 140737488355328) (hpos : 0 < n) :
    ∀ h, Has h L → ∃ r' h₁, opB P a o h = some (.val (.slice (some ⟨r', 0, none⟩) n openCap) h₁) ∧ Has h₁ ((r', .cells e (byteCells s)) :: L) :=
  e_append0 ho hT ha (by rw [hn]; rfl) (first_text hn) (by rw [byteCells_one]; rfl) hsm hsm2 hpos
end
end Go.Am
namespace Go.Proofs.YtoadplnbajmcbaaGreatDoor
open Go.Am Go.Pd
set_option linter.unusedVariables false
set_option maxRecDepth 20000
set_option maxHeartbeats 4000000
attribute [local irreducible] OS LSr ODS CS YS
abbrev pRow (p v : Value) (rd : Nat) : ARow := .cells 185 [p, v, ptr rd]
/-- A printer whose builder holds these bytes. -/
def BP (rp rd : Nat) (bs : List UInt8) (F L : RL) : Prop :=
  (bs = [] ∧ L = (rp, pRow (.pointer none) (.slice none 0 0) rd) :: F) ∨
  (bs ≠ [] ∧ ∃ r, L = (r, .cells 5 (byteCells bs)) :: (rp, pRow (ptr rp) (.slice (some ⟨r, 0, none⟩) bs.length openCap) rd) :: F)
theorem WriteP_ct {F L : RL} {rp rd : Nat} {bs : List UInt8} (t : List UInt8) (ht : t ≠ []) (hB : BP rp rd bs F L) (hn : bs.length + t.length ≤ 100000000) : CS Tryz.prog 122 [ptr rp, str t] L fun v L' => v = .tuple #[.int .i64 (t.length : Nat), .nilIface] ∧ BP rp rd (bs ++ t) F L' := by
  have htl : 0 < t.length := by cases t with
    | nil => exact absurd rfl ht
    | cons => simp
  rcases hB with ⟨rfl, rfl⟩ | ⟨h0, r, rfl⟩
  · have key : CS Tryz.prog 151 [ptr rp] ((rp, pRow (.pointer none) (.slice none 0 0) rd) :: F) fun v L' => L' = (rp, pRow (ptr rp) (.slice none 0 0) rd) :: F := by
      refine CS.mk (fn := Tryz.f151) rfl rfl rfl rfl ?_
      repeat refine LS.seq ?_
      refine LS.region rfl ?_
      refine OS.pure rfl (fun _ => rfl) rfl ?_
      refine OS.pure rfl (fun _ => rfl) rfl ?_
      refine OS.pure rfl (fun _ => rfl) rfl ?_
      refine OS.read rfl (e_load 0 rfl rfl rfl rfl rfl) rfl ?_
      refine OS.pure rfl (fun _ => rfl) rfl ?_
      refine OS.nil ?_
      repeat refine LS.seq ?_
      refine LS.cond rfl (fun hc => ?_) (fun hc => ?_)
      · repeat refine LS.seq ?_
        refine LS.region rfl ?_
        refine OS.pure rfl (fun _ => rfl) rfl ?_
        refine OS.pure rfl (fun _ => rfl) rfl ?_
        refine OS.read rfl (e_toUnsafe 0 (n := 1) rfl rfl rfl rfl rfl rfl (by simp)) rfl ?_
        refine OS.ext (noEscape_ext (ptr rp)) rfl (fun _ => rfl) rfl ?_
        refine OS.read rfl (e_fromFirst 0 (n := 1) rfl rfl rfl rfl rfl rfl (by kernel_rfl) (by kernel_rfl) (by kernel_rfl) (by kernel_rfl)) rfl ?_
        refine OS.pure rfl (fun _ => rfl) rfl ?_
        refine OS.pure rfl (fun _ => rfl) rfl ?_
        refine OS.write rfl (e_store 0 rfl rfl rfl rfl rfl rfl rfl rfl) rfl ?_
        refine OS.nil ?_
        refine ⟨_, fun _ _ => rfl, ?_⟩
        rfl
      · cases hc
    refine CS.mk (fn := Tryz.f122) rfl rfl rfl rfl ?_
    repeat refine LS.seq ?_
    refine LS.region rfl ?_
    refine OS.pure rfl (fun _ => rfl) rfl ?_
    refine OS.pure rfl (fun _ => rfl) rfl ?_
    refine OS.nil ?_
    repeat refine LS.seq ?_
    refine LS.region rfl ?_
    refine OS.pure rfl (fun _ => rfl) rfl ?_
    refine OS.call noGo rfl (fun _ => rfl) ((key).mono ?_)
    rintro v L' rfl
    refine ⟨_, rfl, ?_⟩
    refine OS.nil ?_
    repeat refine LS.seq ?_
    refine LS.region rfl ?_
    refine OS.pure rfl (fun _ => rfl) rfl ?_
    refine OS.pure rfl (fun _ => rfl) rfl ?_
    refine OS.pure rfl (fun _ => rfl) rfl ?_
    refine OS.pure rfl (fun _ => rfl) rfl ?_
    refine OS.read rfl (e_load 0 rfl rfl rfl rfl rfl) rfl ?_
    refine OS.pure rfl (fun _ => rfl) rfl ?_
    refine OS.fresh rfl (e_append0_txt (bts := 1) rfl rfl rfl rfl (by omega) (by omega) htl) (fun _ => rfl) (fun r3 => ?_)
    refine OS.pure rfl (fun _ => rfl) rfl ?_
    refine OS.pure rfl (fun _ => rfl) rfl ?_
    refine OS.write rfl (e_store 1 rfl rfl rfl rfl rfl rfl rfl rfl) rfl ?_
    refine OS.nil ?_
    repeat refine LS.seq ?_
    refine LS.region rfl ?_
    refine OS.pure rfl (fun _ => rfl) rfl ?_
    refine OS.pure rfl (fun _ => rfl) rfl ?_
    refine OS.pure rfl (fun _ => rfl) rfl ?_
    refine OS.pure rfl (fun _ => rfl) rfl ?_
    refine OS.nil ?_
    refine LS.ret ⟨_, fun _ _ => rfl, ?_⟩
    exact ⟨rfl, .inr ⟨by simpa using ht, r3, rfl⟩⟩
  · have key : CS Tryz.prog 151 [ptr rp] ((r, .cells 5 (byteCells bs)) :: (rp, pRow (ptr rp) (.slice (some ⟨r, 0, none⟩) bs.length openCap) rd) :: F) fun v L' => L' = (r, .cells 5 (byteCells bs)) :: (rp, pRow (ptr rp) (.slice (some ⟨r, 0, none⟩) bs.length openCap) rd) :: F := by
      refine CS.mk (fn := Tryz.f151) rfl rfl rfl rfl ?_
      repeat refine LS.seq ?_
      refine LS.region rfl ?_
      refine OS.pure rfl (fun _ => rfl) rfl ?_
      refine OS.pure rfl (fun _ => rfl) rfl ?_
      refine OS.pure rfl (fun _ => rfl) rfl ?_
      refine OS.read rfl (e_load 1 rfl rfl rfl rfl rfl) rfl ?_
      refine OS.pure rfl (fun _ => rfl) rfl ?_
      refine OS.nil ?_
      repeat refine LS.seq ?_
      refine LS.cond rfl (fun hc => ?_) (fun hc => ?_)
      · cases hc
      · repeat refine LS.seq ?_
        refine LS.region rfl ?_
        refine OS.pure rfl (fun _ => rfl) rfl ?_
        refine OS.pure rfl (fun _ => rfl) rfl ?_
        refine OS.pure rfl (fun _ => rfl) rfl ?_
        refine OS.read rfl (e_load 1 rfl rfl rfl rfl rfl) rfl ?_
        refine OS.pure rfl (fun _ => rfl) rfl ?_
        refine OS.pure rfl (e_nep2 rfl rfl rfl rfl rfl) rfl ?_
        refine OS.nil ?_
        repeat refine LS.seq ?_
        refine LS.cond rfl (fun hc => ?_) (fun hc => ?_)
        · cases hc
        · refine LS.skip ⟨_, fun _ _ => rfl, ?_⟩
          rfl
    refine CS.mk (fn := Tryz.f122) rfl rfl rfl rfl ?_
    repeat refine LS.seq ?_
    refine LS.region rfl ?_
    refine OS.pure rfl (fun _ => rfl) rfl ?_
    refine OS.pure rfl (fun _ => rfl) rfl ?_
    refine OS.nil ?_
    repeat refine LS.seq ?_
    refine LS.region rfl ?_
    refine OS.pure rfl (fun _ => rfl) rfl ?_
    refine OS.call noGo rfl (fun _ => rfl) ((key).mono ?_)
    rintro v L' rfl
    refine ⟨_, rfl, ?_⟩
    refine OS.nil ?_
    repeat refine LS.seq ?_
    refine LS.region rfl ?_
    refine OS.pure rfl (fun _ => rfl) rfl ?_
    refine OS.pure rfl (fun _ => rfl) rfl ?_
    refine OS.pure rfl (fun _ => rfl) rfl ?_
    refine OS.pure rfl (fun _ => rfl) rfl ?_
    refine OS.read rfl (e_load 1 rfl rfl rfl rfl rfl) rfl ?_
    refine OS.pure rfl (fun _ => rfl) rfl ?_
    refine OS.fresh rfl (e_append_txt 0 (bts := 1) (len := bs.length) rfl rfl rfl rfl (by omega) (by omega) rfl (cut_all (by rw [byteCells_len]; omega)) rfl) (fun _ => rfl) (fun r3 => ?_)
    refine OS.pure rfl (fun _ => rfl) rfl ?_
    refine OS.pure rfl (fun _ => rfl) rfl ?_
    refine OS.write rfl (e_store 1 rfl rfl rfl rfl rfl rfl rfl rfl) rfl ?_
    refine OS.nil ?_
    repeat refine LS.seq ?_
    refine LS.region rfl ?_
    refine OS.pure rfl (fun _ => rfl) rfl ?_
    refine OS.pure rfl (fun _ => rfl) rfl ?_
    refine OS.pure rfl (fun _ => rfl) rfl ?_
    refine OS.pure rfl (fun _ => rfl) rfl ?_
    refine OS.nil ?_
    refine LS.ret ⟨_, fun _ _ => rfl, ?_⟩
    refine ⟨rfl, .inr ⟨by simp [h0], r3, ?_⟩⟩
    rw [byteCells_append, List.length_append]
theorem StringP_ct {F L : RL} {rp rd : Nat} {bs : List UInt8} (hB : BP rp rd bs F L) (hn : bs.length ≤ 100000000) : CS Tryz.prog 88 [ptr rp] L fun v L' => v = str bs ∧ ∃ Z, L' = Z ++ F := by
  rcases hB with ⟨rfl, rfl⟩ | ⟨h0, r, rfl⟩
  · refine CS.mk (fn := Tryz.f88) rfl rfl rfl rfl ?_
    repeat refine LS.seq ?_
    refine LS.region rfl ?_
    refine OS.pure rfl (fun _ => rfl) rfl ?_
    refine OS.nil ?_
    repeat refine LS.seq ?_
    refine LS.drawn noGo mixed [(0, false), (1, false), (2, false), (3, false), (4, false), (5, false), (6, false), (7, false), (8, false), (9, false), (10, true), (11, false)] rfl rfl (by kernel_rfl) ?_
    refine ODS.pure rfl rfl (fun _ => rfl) rfl ?_
    refine ODS.pure rfl rfl (fun _ => rfl) rfl ?_
    refine ODS.pure rfl rfl (fun _ => rfl) rfl ?_
    refine ODS.read rfl rfl (e_load 0 rfl rfl rfl rfl rfl) rfl ?_
    refine ODS.pure rfl rfl (fun _ => rfl) rfl ?_
    refine ODS.pure rfl rfl (fun _ => rfl) rfl ?_
    refine ODS.pure rfl rfl (fun _ => rfl) rfl ?_
    refine ODS.pure rfl rfl (fun _ => rfl) rfl ?_
    refine ODS.read rfl rfl (e_load 0 rfl rfl rfl rfl rfl) rfl ?_
    refine ODS.pure rfl rfl (fun _ => rfl) rfl ?_
    refine ODS.write rfl rfl (fun h H => ⟨h, rfl, H⟩) rfl (Keep.gone rfl (Keep.gone rfl Keep.nil)) ?_
    refine ODS.pure rfl rfl (fun _ => rfl) rfl ?_
    refine ODS.nil ?_
    refine LS.ret ⟨_, fun _ _ => rfl, ?_⟩
    exact ⟨rfl, [_], rfl⟩
  · have h1 : 1 ≤ bs.length := by
      cases bs with
      | nil => exact absurd rfl h0
      | cons c bs => simp
    refine CS.mk (fn := Tryz.f88) rfl rfl rfl rfl ?_
    repeat refine LS.seq ?_
    refine LS.region rfl ?_
    refine OS.pure rfl (fun _ => rfl) rfl ?_
    refine OS.nil ?_
    repeat refine LS.seq ?_
    refine LS.drawn noGo mixed [(0, false), (1, false), (2, false), (3, false), (4, false), (5, false), (6, false), (7, false), (8, false), (9, false), (10, true), (11, false)] rfl rfl (by kernel_rfl) ?_
    refine ODS.pure rfl rfl (fun _ => rfl) rfl ?_
    refine ODS.pure rfl rfl (fun _ => rfl) rfl ?_
    refine ODS.pure rfl rfl (fun _ => rfl) rfl ?_
    refine ODS.read rfl rfl (e_load 1 rfl rfl rfl rfl rfl) rfl ?_
    refine ODS.pure rfl rfl (e_data rfl rfl rfl h1) rfl ?_
    refine ODS.pure rfl rfl (fun _ => rfl) rfl ?_
    refine ODS.pure rfl rfl (fun _ => rfl) rfl ?_
    refine ODS.pure rfl rfl (fun _ => rfl) rfl ?_
    refine ODS.read rfl rfl (e_load 1 rfl rfl rfl rfl rfl) rfl ?_
    refine ODS.pure rfl rfl (fun _ => rfl) rfl ?_
    refine ODS.write rfl rfl (e_unsafe 0 (n := bs.length) rfl rfl rfl rfl rfl rfl rfl rfl rfl h1 (by omega) rfl) rfl (Keep.gone rfl (Keep.gone rfl Keep.nil)) ?_
    refine ODS.pure rfl rfl (fun _ => rfl) rfl ?_
    refine ODS.nil ?_
    refine LS.ret ⟨_, fun _ _ => rfl, ?_⟩
    exact ⟨rfl, [_], rfl⟩
end Go.Proofs.YtoadplnbajmcbaaGreatDoor
