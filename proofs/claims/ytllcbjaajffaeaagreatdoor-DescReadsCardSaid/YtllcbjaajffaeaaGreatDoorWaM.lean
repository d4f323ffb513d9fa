import Derived.Test.YtllcbjaajffaeaaGreatDoorAmE
import Derived.Test.YtllcbjaajffaeaaGreatDoorProg
import Derived.Lib.Bytealg
import Derived.KernelRfl
namespace Go.Am
theorem CS.closedQ {P : Program} (hg : noGo P = true) (hmix : P.follows .mixedOrders = true) {fuel depth : Nat} {f : FuncId} {args : List Value} {v : Value} {L : RL}
    (ha : allPlain args = true) (hv1 : ∀ ρ u, VRel ρ v u → u = v) (hv2 : ∀ ρ, VRel ρ v v) (e : (callB P nothing fuel depth f args AW.empty).map (·.1) = some v) : CS P f args L fun v' L' => v' = v ∧ L' = L := by
  obtain ⟨⟨v0, h₁⟩, e', rfl⟩ := Option.map_eq_some_iff.1 e
  intro h H
  have s := callB_sound hg hmix nothing_sound fuel depth f args AW.empty v0 h₁ e'
  refine ⟨s.1, fun ρ us w hus HR => ?_⟩
  have hus' := hus.plain_eq ha
  subst hus'
  refine (s.2 (fun _ => none) us w (.of_plain ha) (empty_rel w)).mono ?_
  rintro en w' ⟨u, ρ', rfl, hvu, H', T⟩
  have hu := hv1 _ _ hvu
  subst hu
  have keep : ∀ k, k < w.heap.size → w'.heap[k]? = w.heap[k]? := fun k hk => T.keep k hk fun r row l hr => (by cases hr)
  refine ⟨_, h, _, ρ, rfl, ⟨L, ⟨rfl, rfl⟩, H⟩, hv2 _, ⟨fun r row hr => ?_, HR.inj, HR.fresh, HR.step⟩, ⟨Env.le_refl _, T.os, T.tape, T.output, T.size, fun r row l hr ho hl _ => ⟨r, row, l, hr, ho, hl, rfl⟩, fun k hk _ => keep k hk, fun _ _ e => .inl e, ⟨0, by simp⟩, rfl⟩⟩
  obtain ⟨l, hl, hr'⟩ := HR.loc r row hr
  exact ⟨l, hl, hr'.keep (Env.le_refl _) (keep _ hr'.lt)⟩
section
variable {P : Program} {o : Oper} {a : Slots} {L L₁ : RL} {x y z : Operand} {t : TypeId}
theorem e_arr {k : IntKind} {r off n sz j : Nat} {el : TypeId} (ho : o.op = .indexAddr t x y) (hx : aev a x = some (.pointer (some ⟨r, off, none⟩))) (hy : aev a y = some (.int k (j : Int))) (ht : P.underlying t = some (.array n el)) (hz : sizeB P el = some sz) (hj : j < n) : ∀ h, opB P a o h = some (.val (.pointer (some ⟨r, off + j * sz, none⟩)) h) := by
  intro h
  have hb : inB (j : Int) n = true := by
    unfold inB
    rw [Bool.and_eq_true, ileB_iff, Int.toNat_natCast]
    exact ⟨by omega, Nat.ble_eq_true_of_le hj⟩
  simp only [opB, ho, hx, hy, indexAddrB, ht, hb, hz, Int.toNat_natCast, ret]
end
theorem Sub.tail {x : Nat × ARow} {L : RL} : Sub L (x :: L) := ⟨[x], by simpa using (List.perm_append_comm (l₁ := [x]) (l₂ := L))⟩
end Go.Am
namespace Go.Proofs.YtllcbjaajffaeaaGreatDoor
open Go.Am
set_option linter.unusedVariables false
set_option maxRecDepth 20000
theorem noGo : Am.noGo Tryz.prog = true := by kernel_rfl
theorem mixed : Tryz.prog.follows .mixedOrders = true := by kernel_rfl
abbrev ptr (r : Nat) : Value := .pointer (some ⟨r, 0, none⟩)
abbrev str (s : List UInt8) : Value := .string ⟨⟨s⟩⟩
def isBl (c : UInt8) : Bool := c == 32 || c == 9
def asc : List Value := (List.range 256).map fun i => .bool (i == 32 || i == 9)
theorem asc_at (c : UInt8) : asc[0 + c.toNat * 1]? = some (.bool (isBl c)) := by
  have h : ∀ n : Fin 256, asc[0 + n.val * 1]? = some (.bool ((n.val == 32) || (n.val == 9))) := by
    intro n
    simp [asc, n.isLt]
  have := h ⟨c.toNat, c.toNat_lt⟩
  rw [this]
  have h1 : (c.toNat == 32) = (c == 32) := by rw [Bool.eq_iff_iff]; simp [← UInt8.toNat_inj]
  have h2 : (c.toNat == 9) = (c == 9) := by rw [Bool.eq_iff_iff]; simp [← UInt8.toNat_inj]
  simp [isBl, h1, h2]
theorem set_ct {L : RL} : CS Tryz.prog 185 [str [32, 9]] L fun v L' => v = .tuple #[.agg ⟨asc⟩, .bool true] ∧ L' = L := by
  refine CS.closedQ noGo mixed (fuel := 50) (depth := 10) rfl (fun ρ u h => ?_) (fun ρ => ?_) (by kernel_rfl)
  · cases h with
    | tuple h =>
      rename_i b
      obtain ⟨b⟩ := b
      cases h with
      | cons h1 h2 =>
        cases h1 with
        | agg h1 =>
          rename_i b1
          obtain ⟨b1⟩ := b1
          have := LRel.flat_eq h1 (by kernel_rfl)
          simp at this
          subst this
          cases h2 with
          | cons h3 h4 =>
            cases h3
            cases h4
            rfl
  · exact .tuple (.cons (.agg (.of_plain (by kernel_rfl))) (.cons (.bool _) .nil))
theorem contains_ct {F : RL} {ra : Nat} (c : UInt8) : CS Tryz.prog 206 [ptr ra, .int .u8 (c.toNat : Nat)] ((ra, .cells 318 asc) :: F) fun v L' => v = .bool (isBl c) ∧ L' = (ra, .cells 318 asc) :: F := by
  refine CS.mk (fn := Tryz.f206) rfl rfl rfl rfl ?_
  repeat refine LS.seq ?_
  refine LS.region rfl ?_
  refine OS.pure rfl (fun _ => rfl) rfl ?_
  refine OS.nil ?_
  repeat refine LS.seq ?_
  refine LS.region rfl ?_
  refine OS.pure rfl (fun _ => rfl) rfl ?_
  refine OS.pure rfl (fun _ => rfl) rfl ?_
  refine OS.pure rfl (fun _ => rfl) rfl ?_
  refine OS.pure rfl (e_arr (j := c.toNat) (sz := 1) rfl rfl rfl rfl rfl (UInt8.toNat_lt c)) rfl ?_
  refine OS.read rfl (e_load 0 rfl rfl rfl rfl (part_one rfl (asc_at c))) rfl ?_
  refine OS.pure rfl (fun _ => rfl) rfl ?_
  refine OS.nil ?_
  refine LS.ret ⟨_, fun _ _ => rfl, ?_⟩
  exact ⟨rfl, rfl⟩
theorem trimA_ct {F : RL} {ra : Nat} (s : List UInt8) (hs : s.length ≤ 9000000000000000) : CS Tryz.prog 186 [str s, ptr ra] ((ra, .cells 318 asc) :: F) fun v L' => v = str (s.dropWhile isBl) ∧ L' = (ra, .cells 318 asc) :: F := by
  refine CS.mk (fn := Tryz.f186) rfl rfl rfl rfl ?_
  repeat refine LS.seq ?_
  refine LS.region rfl ?_
  refine OS.pure rfl (fun _ => rfl) rfl ?_
  refine OS.nil ?_
  repeat refine LS.seq ?_
  refine LS.block ?_
  refine LS.loopJ [0, 1] (fun q a L' => ∃ t : List UInt8, q = t.length ∧ t.dropWhile isBl = s.dropWhile isBl ∧ t.length ≤ s.length ∧ L' = (ra, .cells 318 asc) :: F ∧ a = [str t, ptr ra, .chan none, .chan none, .chan none, .chan none, .chan none, .chan none, .chan none, .chan none, .chan none, .chan none, .chan none, .chan none, .chan none, .chan none]) (n := s.length) rfl ⟨s, rfl, rfl, by omega, rfl, rfl⟩ ?_
  rintro q a L' ⟨t, rfl, ht, hl, rfl, rfl⟩
  repeat refine LS.seq ?_
  refine LS.region rfl ?_
  refine OS.pure rfl (fun _ => rfl) rfl ?_
  refine OS.pure rfl (fun _ => rfl) rfl ?_
  refine OS.pure rfl (fun _ => rfl) rfl ?_
  refine OS.nil ?_
  repeat refine LS.seq ?_
  refine LS.cond rfl (fun hc => ?_) (fun hc => ?_)
  · have hc : (0 : Int) < t.length := lt_of hc
    cases t with
    | nil => simp at hc
    | cons c t =>
      refine LS.skip ?_
      repeat refine LS.seq ?_
      refine LS.block ?_
      repeat refine LS.seq ?_
      refine LS.region rfl ?_
      refine OS.pure rfl (fun _ => rfl) rfl ?_
      refine OS.pure rfl (fun _ => rfl) rfl ?_
      refine OS.pure rfl (e_byte (j := 0) rfl rfl rfl rfl rfl) rfl ?_
      refine OS.call noGo rfl (fun _ => rfl) ((contains_ct c).mono ?_)
      rintro v L' ⟨rfl, rfl⟩
      refine ⟨_, rfl, ?_⟩
      refine OS.pure rfl (fun _ => rfl) rfl ?_
      refine OS.nil ?_
      repeat refine LS.seq ?_
      refine LS.cond rfl (fun hb => ?_) (fun hb => ?_)
      · have hb : isBl c = false := by simpa using hb
        refine LS.exit ?_
        repeat refine LS.seq ?_
        refine LS.region rfl ?_
        refine OS.pure rfl (fun _ => rfl) rfl ?_
        refine OS.pure rfl (fun _ => rfl) rfl ?_
        refine OS.nil ?_
        refine LS.ret ⟨_, fun _ _ => rfl, ?_⟩
        refine ⟨?_, rfl⟩
        rw [← ht]; simp [tupleB, hb]
      · have hb : isBl c = true := by simpa using hb
        refine LS.skip ?_
        repeat refine LS.seq ?_
        refine LS.region rfl ?_
        refine OS.pure rfl (fun _ => rfl) rfl ?_
        refine OS.pure rfl (e_part (s := c :: t) (l := 1) (u := t.length + 1) rfl rfl rfl rfl rfl rfl rfl (by simp) (by omega)) rfl ?_
        refine OS.pure rfl (fun _ => rfl) rfl ?_
        refine OS.nil ?_
        have e1 : ((c :: t).drop 1).take (t.length + 1 - 1) = t := by simp
        rw [e1]
        refine ⟨t.length, by simp, t, rfl, ?_, by simp at hl; omega, rfl, rfl⟩
        rw [← ht]; simp [hb]
  · have hc : (t.length : Int) ≤ 0 := nlt_of hc
    have h0 : t = [] := List.eq_nil_of_length_eq_zero (by omega)
    subst h0
    refine LS.exit ?_
    repeat refine LS.seq ?_
    refine LS.region rfl ?_
    refine OS.pure rfl (fun _ => rfl) rfl ?_
    refine OS.pure rfl (fun _ => rfl) rfl ?_
    refine OS.nil ?_
    refine LS.ret ⟨_, fun _ _ => rfl, ?_⟩
    refine ⟨?_, rfl⟩
    rw [← ht]; rfl
end Go.Proofs.YtllcbjaajffaeaaGreatDoor
namespace Go.Proofs.YtllcbjaajffaeaaGreatDoor
open Go.Am
set_option linter.unusedVariables false
set_option maxRecDepth 20000
theorem ascZeros : zerosB Tryz.prog 318 = some (List.replicate 256 (.bool false)) := by kernel_rfl
theorem ascLay : lay (List.replicate 256 (.bool false)) 0 asc = some asc := by kernel_rfl
theorem ascOne : (Nat.beq (Value.agg ⟨asc⟩).cells.toList.length 256 && allOne (Value.agg ⟨asc⟩).cells.toList) = true := by kernel_rfl
theorem ascCells : (Value.agg ⟨asc⟩).cells.toList = asc := by kernel_rfl
theorem TrimLeft_ct {L : RL} (s : List UInt8) (hs : s.length ≤ 9000000000000000) : CS Tryz.prog 161 [str s, str [32, 9]] L fun v L' => v = str (s.dropWhile isBl) ∧ L' = L := by
  cases s with
  | nil =>
    refine CS.mk (fn := Tryz.f161) rfl rfl rfl rfl ?_
    repeat refine LS.seq ?_
    refine LS.region rfl ?_
    refine OS.pure rfl (fun _ => rfl) rfl ?_
    refine OS.nil ?_
    repeat refine LS.seq ?_
    refine LS.region rfl ?_
    refine OS.pure rfl (fun _ => rfl) rfl ?_
    refine OS.pure rfl (fun _ => rfl) rfl ?_
    refine OS.pure rfl (fun _ => rfl) rfl ?_
    refine OS.skip rfl rfl ?_
    refine OS.skip rfl rfl ?_
    refine OS.pure rfl (fun _ => rfl) rfl ?_
    refine OS.nil ?_
    repeat refine LS.seq ?_
    refine LS.cond rfl (fun hc => ?_) (fun hc => ?_)
    · repeat refine LS.seq ?_
      refine LS.region rfl ?_
      refine OS.pure rfl (fun _ => rfl) rfl ?_
      refine OS.pure rfl (fun _ => rfl) rfl ?_
      refine OS.nil ?_
      refine LS.ret ⟨_, fun _ _ => rfl, ?_⟩
      exact ⟨rfl, rfl⟩
    · cases hc
  | cons c s =>
    suffices h : CS Tryz.prog 161 [str (c :: s), str [32, 9]] L fun v L' => v = str ((c :: s).dropWhile isBl) ∧ ∃ x, L' = x :: L by
      exact h.less fun v L' ⟨h1, x, h2⟩ => ⟨L, by rw [h2]; exact Sub.tail, h1, rfl⟩
    refine CS.mk (fn := Tryz.f161) rfl rfl rfl rfl ?_
    repeat refine LS.seq ?_
    refine LS.region rfl ?_
    refine OS.pure rfl (fun _ => rfl) rfl ?_
    refine OS.nil ?_
    repeat refine LS.seq ?_
    refine LS.region rfl ?_
    refine OS.pure rfl (fun _ => rfl) rfl ?_
    refine OS.pure rfl (fun _ => rfl) rfl ?_
    refine OS.pure rfl (fun _ => rfl) rfl ?_
    refine OS.pure rfl (fun _ => rfl) rfl ?_
    refine OS.pure rfl (fun _ => rfl) rfl ?_
    refine OS.pure rfl (fun _ => rfl) rfl ?_
    refine OS.nil ?_
    repeat refine LS.seq ?_
    refine LS.cond rfl (fun hc => ?_) (fun hc => ?_)
    · cases hc
    refine LS.skip ?_
    repeat refine LS.seq ?_
    refine LS.region rfl ?_
    refine OS.pure rfl (fun _ => rfl) rfl ?_
    refine OS.pure rfl (fun _ => rfl) rfl ?_
    refine OS.pure rfl (fun _ => rfl) rfl ?_
    refine OS.pure rfl (fun _ => rfl) rfl ?_
    refine OS.skip rfl rfl ?_
    refine OS.skip rfl rfl ?_
    refine OS.skip rfl rfl ?_
    refine OS.pure rfl (fun _ => rfl) rfl ?_
    refine OS.nil ?_
    repeat refine LS.seq ?_
    refine LS.cond rfl (fun hc2 => ?_) (fun hc2 => ?_)
    · cases hc2
    refine LS.skip ?_
    repeat refine LS.seq ?_
    refine LS.region rfl ?_
    refine OS.pure rfl (fun _ => rfl) rfl ?_
    refine OS.call noGo rfl (fun _ => rfl) ((set_ct).mono ?_)
    rintro v L' ⟨rfl, rfl⟩
    refine ⟨_, rfl, ?_⟩
    refine OS.pure rfl (fun _ => rfl) rfl ?_
    refine OS.pure rfl (fun _ => rfl) rfl ?_
    refine OS.pure rfl (fun _ => rfl) rfl ?_
    refine OS.fresh rfl (e_new (el := 318) (mk := ptrTo) (cs := List.replicate 256 (.bool false)) (fun _ => by simp only [opB, ascZeros]) rfl) (fun _ => rfl) (fun ra => ?_)
    refine OS.write rfl (e_store 0 (n := 256) (cs' := asc) rfl rfl rfl rfl rfl ascOne (by rw [ascCells]; exact ascLay) rfl) rfl ?_
    refine OS.pure rfl (fun _ => rfl) rfl ?_
    refine OS.nil ?_
    repeat refine LS.seq ?_
    refine LS.region rfl ?_
    refine OS.pure rfl (fun _ => rfl) rfl ?_
    refine OS.nil ?_
    repeat refine LS.seq ?_
    refine LS.cond rfl (fun hc3 => ?_) (fun hc3 => ?_)
    · repeat refine LS.seq ?_
      refine LS.region rfl ?_
      refine OS.pure rfl (fun _ => rfl) rfl ?_
      refine OS.call noGo rfl (fun _ => rfl) ((trimA_ct (c :: s) hs).mono ?_)
      rintro v L' ⟨rfl, rfl⟩
      refine ⟨_, rfl, ?_⟩
      refine OS.pure rfl (fun _ => rfl) rfl ?_
      refine OS.nil ?_
      refine LS.ret ⟨_, fun _ _ => rfl, ?_⟩
      exact ⟨rfl, _, rfl⟩
    · cases hc3
theorem HasPrefixQ_ct {L : RL} (s : List UInt8) (hs : s.length ≤ 9000000000000000) : CS Tryz.prog 192 [str s, str [34]] L fun v L' => v = .bool (s.head? == some 34) ∧ L' = L := by
  have key : CS Tryz.prog 175 [str s, str [34]] L fun v L' => v = .bool (s.head? == some 34) ∧ L' = L := by
    cases s with
    | nil =>
      refine CS.mk (fn := Tryz.f175) rfl rfl rfl rfl ?_
      repeat refine LS.seq ?_
      refine LS.region rfl ?_
      refine OS.pure rfl (fun _ => rfl) rfl ?_
      refine OS.nil ?_
      repeat refine LS.seq ?_
      refine LS.region rfl ?_
      refine OS.pure rfl (fun _ => rfl) rfl ?_
      refine OS.pure rfl (fun _ => rfl) rfl ?_
      refine OS.pure rfl (fun _ => rfl) rfl ?_
      refine OS.pure rfl (fun _ => rfl) rfl ?_
      refine OS.pure rfl (fun _ => rfl) rfl ?_
      refine OS.pure rfl (fun _ => rfl) rfl ?_
      refine OS.skip rfl rfl ?_
      refine OS.skip rfl rfl ?_
      refine OS.skip rfl rfl ?_
      refine OS.skip rfl rfl ?_
      refine OS.skip rfl rfl ?_
      refine OS.skip rfl rfl ?_
      refine OS.pure rfl (fun _ => rfl) rfl ?_
      refine OS.pure rfl (fun _ => rfl) rfl ?_
      refine OS.nil ?_
      refine LS.ret ⟨_, fun _ _ => rfl, ?_⟩
      exact ⟨rfl, rfl⟩
    | cons c s =>
      have hb : ileB 1 ((c :: s).length : Int) = true := ileB_iff.2 (by simp; omega)
      refine CS.mk (fn := Tryz.f175) rfl rfl rfl rfl ?_
      repeat refine LS.seq ?_
      refine LS.region rfl ?_
      refine OS.pure rfl (fun _ => rfl) rfl ?_
      refine OS.nil ?_
      repeat refine LS.seq ?_
      refine LS.region rfl ?_
      refine OS.pure rfl (fun _ => rfl) rfl ?_
      refine OS.pure rfl (fun _ => rfl) rfl ?_
      refine OS.pure rfl (fun _ => rfl) rfl ?_
      refine OS.pure rfl (fun _ => rfl) rfl ?_
      refine OS.pure rfl (e_is (fun _ => rfl) (congrArg Value.bool hb)) rfl ?_
      refine OS.pure rfl (fun _ => rfl) rfl ?_
      refine OS.pure rfl (fun _ => rfl) rfl ?_
      refine OS.pure rfl (fun _ => rfl) rfl ?_
      refine OS.pure rfl (fun _ => rfl) rfl ?_
      refine OS.pure rfl (e_part (s := c :: s) (l := 0) (u := 1) rfl rfl rfl rfl rfl rfl rfl (by simp) (by omega)) rfl ?_
      refine OS.pure rfl (fun _ => rfl) rfl ?_
      refine OS.pure rfl (fun _ => rfl) rfl ?_
      refine OS.pure rfl (fun _ => rfl) rfl ?_
      refine OS.pure rfl (fun _ => rfl) rfl ?_
      refine OS.nil ?_
      refine LS.ret ⟨_, fun _ _ => rfl, ?_⟩
      refine ⟨?_, rfl⟩
      show Value.bool (bytesEq [c] [34]) = _
      rw [bytesEq_eq]
      congr 1
      rw [Bool.eq_iff_iff]; simp
  refine CS.mk (fn := Tryz.f192) rfl rfl rfl rfl ?_
  repeat refine LS.seq ?_
  refine LS.region rfl ?_
  refine OS.pure rfl (fun _ => rfl) rfl ?_
  refine OS.nil ?_
  repeat refine LS.seq ?_
  refine LS.region rfl ?_
  refine OS.pure rfl (fun _ => rfl) rfl ?_
  refine OS.pure rfl (fun _ => rfl) rfl ?_
  refine OS.call noGo rfl (fun _ => rfl) ((key).mono ?_)
  rintro v L' ⟨rfl, rfl⟩
  refine ⟨_, rfl, ?_⟩
  refine OS.pure rfl (fun _ => rfl) rfl ?_
  refine OS.nil ?_
  refine LS.ret ⟨_, fun _ _ => rfl, ?_⟩
  exact ⟨rfl, rfl⟩
theorem index_ext (s : List UInt8) (c : UInt8) : Ext Tryz.prog 197 [str s, .int .u8 (c.toNat : Nat)] (.int .i64 (Lib.indexByte s c)) := by
  refine ⟨_, Extern.BytealgIndexByte.indexByte, rfl, by kernel_rfl, by kernel_rfl, by kernel_rfl, by kernel_rfl, fun ρ us w h => ?_⟩
  cases h with
  | cons h1 h2 =>
    cases h1
    cases h2 with
    | cons h3 h4 =>
      cases h3; cases h4
      refine ⟨_, Lib.run_indexByteString _ _ w, ?_⟩
      have : (c.toNat : Int).toNat.toUInt8 = c := by simp
      rw [this]
      exact .int _ _
theorem indexByte_neg (l : List UInt8) (c : UInt8) : ileB 0 (Lib.indexByte l c) = l.contains c := by
  rw [ileB_eq, Bool.eq_iff_iff]
  simp only [decide_eq_true_eq, List.contains_iff_mem]
  induction l with
  | nil => simp [Lib.indexByte]
  | cons b l ih =>
    have := Lib.indexByte_ge l c
    unfold Lib.indexByte
    by_cases hb : b = c
    · subst hb; simp
    · have hb' : (b == c) = false := by simpa using hb
      rw [hb']
      simp only [Bool.false_eq_true, if_false, List.mem_cons]
      have hcb : ¬ c = b := fun h => hb h.symm
      simp only [hcb, false_or]
      rw [← ih]
      by_cases h1 : Lib.indexByte l c = -1
      · rw [h1]; simp
      · have : (Lib.indexByte l c == -1) = false := by simpa using h1
        rw [this]; simp only [Bool.false_eq_true, if_false]; omega
theorem ContainsN_ct {L : RL} (s : List UInt8) : CS Tryz.prog 163 [str s, str [10]] L fun v L' => v = .bool (s.contains 10) ∧ L' = L := by
  have k1 : CS Tryz.prog 170 [str s, .int .u8 10] L fun v L' => v = .int .i64 (Lib.indexByte s 10) ∧ L' = L := by
    refine CS.mk (fn := Tryz.f170) rfl rfl rfl rfl ?_
    repeat refine LS.seq ?_
    refine LS.region rfl ?_
    refine OS.pure rfl (fun _ => rfl) rfl ?_
    refine OS.nil ?_
    repeat refine LS.seq ?_
    refine LS.region rfl ?_
    refine OS.pure rfl (fun _ => rfl) rfl ?_
    refine OS.pure rfl (fun _ => rfl) rfl ?_
    refine OS.ext (index_ext s 10) rfl (fun _ => rfl) rfl ?_
    refine OS.pure rfl (fun _ => rfl) rfl ?_
    refine OS.nil ?_
    refine LS.ret ⟨_, fun _ _ => rfl, ?_⟩
    exact ⟨rfl, rfl⟩
  have k2 : CS Tryz.prog 144 [str s, str [10]] L fun v L' => v = .int .i64 (Lib.indexByte s 10) ∧ L' = L := by
    refine CS.mk (fn := Tryz.f144) rfl rfl rfl rfl ?_
    repeat refine LS.seq ?_
    refine LS.region rfl ?_
    refine OS.pure rfl (fun _ => rfl) rfl ?_
    refine OS.nil ?_
    repeat refine LS.seq ?_
    refine LS.region rfl ?_
    refine OS.pure rfl (fun _ => rfl) rfl ?_
    refine OS.pure rfl (fun _ => rfl) rfl ?_
    refine OS.pure rfl (fun _ => rfl) rfl ?_
    refine OS.nil ?_
    repeat refine LS.seq ?_
    refine LS.block ?_
    repeat refine LS.seq ?_
    refine LS.region rfl ?_
    refine OS.pure rfl (fun _ => rfl) rfl ?_
    refine OS.pure rfl (fun _ => rfl) rfl ?_
    refine OS.pure rfl (fun _ => rfl) rfl ?_
    refine OS.pure rfl (fun _ => rfl) rfl ?_
    refine OS.pure rfl (fun _ => rfl) rfl ?_
    refine OS.pure rfl (fun _ => rfl) rfl ?_
    refine OS.pure rfl (fun _ => rfl) rfl ?_
    refine OS.pure rfl (fun _ => rfl) rfl ?_
    refine OS.nil ?_
    repeat refine LS.seq ?_
    refine LS.cond rfl (fun hc => ?_) (fun hc => ?_)
    · have hc : bytesEq [10] s = true := hc
      rw [bytesEq_eq] at hc
      have h0 : s = [10] := (by simpa using hc : [10] = s).symm
      subst h0
      repeat refine LS.seq ?_
      refine LS.region rfl ?_
      refine OS.pure rfl (fun _ => rfl) rfl ?_
      refine OS.nil ?_
      refine LS.ret ⟨_, fun _ _ => rfl, ?_⟩
      exact ⟨rfl, rfl⟩
    repeat refine LS.seq ?_
    refine LS.region rfl ?_
    refine OS.pure rfl (fun _ => rfl) rfl ?_
    refine OS.pure rfl (fun _ => rfl) rfl ?_
    refine OS.pure rfl (fun _ => rfl) rfl ?_
    refine OS.nil ?_
    repeat refine LS.seq ?_
    refine LS.cond rfl (fun hc => ?_) (fun hc => ?_)
    · repeat refine LS.seq ?_
      refine LS.region rfl ?_
      refine OS.pure rfl (fun _ => rfl) rfl ?_
      refine OS.pure rfl (fun _ => rfl) rfl ?_
      refine OS.pure rfl (fun _ => rfl) rfl ?_
      refine OS.call noGo rfl (fun _ => rfl) ((k1).mono ?_)
      rintro v L' ⟨rfl, rfl⟩
      refine ⟨_, rfl, ?_⟩
      refine OS.pure rfl (fun _ => rfl) rfl ?_
      refine OS.nil ?_
      refine LS.ret ⟨_, fun _ _ => rfl, ?_⟩
      exact ⟨rfl, rfl⟩
    · cases hc
  have k3 : CS Tryz.prog 127 [str s, str [10]] L fun v L' => v = .int .i64 (Lib.indexByte s 10) ∧ L' = L := by
    refine CS.mk (fn := Tryz.f127) rfl rfl rfl rfl ?_
    repeat refine LS.seq ?_
    refine LS.region rfl ?_
    refine OS.pure rfl (fun _ => rfl) rfl ?_
    refine OS.nil ?_
    repeat refine LS.seq ?_
    refine LS.region rfl ?_
    refine OS.pure rfl (fun _ => rfl) rfl ?_
    refine OS.pure rfl (fun _ => rfl) rfl ?_
    refine OS.call noGo rfl (fun _ => rfl) ((k2).mono ?_)
    rintro v L' ⟨rfl, rfl⟩
    refine ⟨_, rfl, ?_⟩
    refine OS.pure rfl (fun _ => rfl) rfl ?_
    refine OS.nil ?_
    refine LS.ret ⟨_, fun _ _ => rfl, ?_⟩
    exact ⟨rfl, rfl⟩
  refine CS.mk (fn := Tryz.f163) rfl rfl rfl rfl ?_
  repeat refine LS.seq ?_
  refine LS.region rfl ?_
  refine OS.pure rfl (fun _ => rfl) rfl ?_
  refine OS.nil ?_
  repeat refine LS.seq ?_
  refine LS.region rfl ?_
  refine OS.pure rfl (fun _ => rfl) rfl ?_
  refine OS.pure rfl (fun _ => rfl) rfl ?_
  refine OS.call noGo rfl (fun _ => rfl) ((k3).mono ?_)
  rintro v L' ⟨rfl, rfl⟩
  refine ⟨_, rfl, ?_⟩
  refine OS.pure rfl (e_is (fun _ => rfl) (congrArg Value.bool (indexByte_neg s 10))) rfl ?_
  refine OS.pure rfl (fun _ => rfl) rfl ?_
  refine OS.nil ?_
  refine LS.ret ⟨_, fun _ _ => rfl, ?_⟩
  exact ⟨rfl, rfl⟩
end Go.Proofs.YtllcbjaajffaeaaGreatDoor
