/- Layer 2: the library's calls on which package words leans. -/
import Derived.Test.YtmdcfnnoeimakaaGreatDoorAmE
import Derived.Test.YtmdcfnnoeimakaaGreatDoorProg
import Derived.Lib.Bytealg
import Derived.KernelRfl
namespace Go.Am
/-- A call that needs no rows, and tells no address. -/
theorem CS.closedQ {P : Program} (hg : noGo P = true) (hmix : P.follows .mixedOrders = true) {fuel depth : Nat} {f : FuncId} {args : List Value} {v : Value} {L : RL}
    (ha : allPlain args = true) (hv1 : ∀ ρ u, VRel ρ v u → u = v) (hv2 : ∀ ρ, VRel ρ v v) (e : (callB P nothing fuel depth f args AW.empty).map (·.1) = some v) : CS P f args L fun v' L' => v' = v ∧ L' = L := by
  obtain ⟨⟨v0, h₁⟩, e', rfl⟩ := Option.map_eq_some_iff.1 e
  intro h H
  have s := callB_sound hg hmix nothing_sound fuel depth f args AW.empty v0 h₁ e'
  refine ⟨s.1, fun ρ us w hus HR => ?_⟩
  have hus' := hus.plain_eq ha
  subst hus'
  refine (s.2 (fun _ => none) us w (.of_plain ha) (empty_rel w)).mono ?_
  rintro en w' ⟨u, ρ', rfl, hvu, H', T⟩
  have hu := hv1 _ _ hvu
  subst hu
  have keep : ∀ k, k < w.heap.size → w'.heap[k]? = w.heap[k]? := fun k hk => T.keep k hk fun r row l hr => (by cases hr)
  refine ⟨_, h, _, ρ, rfl, ⟨L, ⟨rfl, rfl⟩, H⟩, hv2 _, ⟨fun r row hr => ?_, HR.inj, HR.fresh, HR.step⟩, ⟨Env.le_refl _, T.os, T.tape, T.output, T.size, fun r row l hr ho hl _ => ⟨r, row, l, hr, ho, hl, rfl⟩, fun k hk _ => keep k hk, fun _ _ e => .inl e, ⟨0, by simp⟩, rfl⟩⟩
  obtain ⟨l, hl, hr'⟩ := HR.loc r row hr
  exact ⟨l, hl, hr'.keep (Env.le_refl _) (keep _ hr'.lt)⟩
section
variable {P : Program} {o : Oper} {a : Slots} {L L₁ : RL} {x y z : Operand} {t : TypeId}
/-- A place in an array. -/
theorem e_arr {k : IntKind} {r off n sz j : Nat} {el : TypeId} (ho : o.op = .indexAddr t x y) (hx : aev a x = some (.pointer (some ⟨r, off, none⟩))) (hy : aev a y = some (.int k (j : Int))) (ht : P.underlying t = some (.array n el)) (hz : sizeB P el = some sz) (hj : j < n) : ∀ h, opB P a o h = some (.val (.pointer (some ⟨r, off + j * sz, none⟩)) h) := by
  intro h
  have hb : inB (j : Int) n = true := by
    unfold inB
    rw [Bool.and_eq_true, ileB_iff, Int.toNat_natCast]
    exact ⟨by omega, Nat.ble_eq_true_of_le hj⟩
  simp only [opB, ho, hx, hy, indexAddrB, ht, hb, hz, Int.toNat_natCast, ret]
end
theorem Sub.tail {x : Nat × ARow} {L : RL} : Sub L (x :: L) := ⟨[x], by simpa using (List.perm_append_comm (l₁ := [x]) (l₂ := L))⟩
end Go.Am
namespace Go.Proofs.YtmdcfnnoeimakaaGreatDoor
open Go.Am
set_option linter.unusedVariables false
set_option maxRecDepth 20000

theorem noGo : Am.noGo Tryz.prog = true := by kernel_rfl
theorem mixed : Tryz.prog.follows .mixedOrders = true := by kernel_rfl
abbrev ptr (r : Nat) : Value := .pointer (some ⟨r, 0, none⟩)
abbrev str (s : List UInt8) : Value := .string ⟨⟨s⟩⟩

/-! ### Blanks -/
def isBl (c : UInt8) : Bool := c == 32 || c == 9
def asc : List Value := (List.range 256).map fun i => .bool (i == 32 || i == 9)
theorem asc_at (c : UInt8) : asc[0 + c.toNat * 1]? = some (.bool (isBl c)) := by
  have h : ∀ n : Fin 256, asc[0 + n.val * 1]? = some (.bool ((n.val == 32) || (n.val == 9))) := by
    intro n
    simp [asc, n.isLt]
  have := h ⟨c.toNat, c.toNat_lt⟩
  rw [this]
  have h1 : (c.toNat == 32) = (c == 32) := by rw [Bool.eq_iff_iff]; simp [← UInt8.toNat_inj]
  have h2 : (c.toNat == 9) = (c == 9) := by rw [Bool.eq_iff_iff]; simp [← UInt8.toNat_inj]
  simp [isBl, h1, h2]
theorem set_ct {L : RL} : CS Tryz.prog 121 [str [32, 9]] L fun v L' => v = .tuple #[.agg ⟨asc⟩, .bool true] ∧ L' = L := by
  refine CS.closedQ noGo mixed (fuel := 50) (depth := 10) rfl (fun ρ u h => ?_) (fun ρ => ?_) (by kernel_rfl)
  · cases h with
    | tuple h =>
      rename_i b
      obtain ⟨b⟩ := b
      cases h with
      | cons h1 h2 =>
        cases h1 with
        | agg h1 =>
          rename_i b1
          obtain ⟨b1⟩ := b1
          have := LRel.flat_eq h1 (by kernel_rfl)
          simp at this
          subst this
          cases h2 with
          | cons h3 h4 =>
            cases h3
            cases h4
            rfl
  · exact .tuple (.cons (.agg (.of_plain (by kernel_rfl))) (.cons (.bool _) .nil))
theorem contains_ct {F : RL} {ra : Nat} (c : UInt8) : CS Tryz.prog 136 [ptr ra, .int .u8 (c.toNat : Nat)] ((ra, .cells 235 asc) :: F) fun v L' => v = .bool (isBl c) ∧ L' = (ra, .cells 235 asc) :: F := by
  refine CS.mk (fn := Tryz.f136) rfl rfl rfl rfl ?_
  repeat refine LS.seq ?_
  refine LS.region rfl ?_
  refine OS.pure rfl (fun _ => rfl) rfl ?_
  refine OS.nil ?_
  repeat refine LS.seq ?_
  refine LS.region rfl ?_
  refine OS.pure rfl (fun _ => rfl) rfl ?_
  refine OS.pure rfl (fun _ => rfl) rfl ?_
  refine OS.pure rfl (fun _ => rfl) rfl ?_
  refine OS.pure rfl (e_arr (j := c.toNat) (sz := 1) rfl rfl rfl rfl rfl (UInt8.toNat_lt c)) rfl ?_
  refine OS.read rfl (e_load 0 rfl rfl rfl rfl (part_one rfl (asc_at c))) rfl ?_
  refine OS.pure rfl (fun _ => rfl) rfl ?_
  refine OS.nil ?_
  refine LS.ret ⟨_, fun _ _ => rfl, ?_⟩
  exact ⟨rfl, rfl⟩
theorem trimA_ct {F : RL} {ra : Nat} (s : List UInt8) (hs : s.length ≤ 9000000000000000) : CS Tryz.prog 122 [str s, ptr ra] ((ra, .cells 235 asc) :: F) fun v L' => v = str (s.dropWhile isBl) ∧ L' = (ra, .cells 235 asc) :: F := by
  refine CS.mk (fn := Tryz.f122) rfl rfl rfl rfl ?_
  repeat refine LS.seq ?_
  refine LS.region rfl ?_
  refine OS.pure rfl (fun _ => rfl) rfl ?_
  refine OS.nil ?_
  repeat refine LS.seq ?_
  refine LS.block ?_
  refine LS.loopJ [0, 1] (fun q a L' => ∃ t : List UInt8, q = t.length ∧ t.dropWhile isBl = s.dropWhile isBl ∧ t.length ≤ s.length ∧ L' = (ra, .cells 235 asc) :: F ∧ a = [str t, ptr ra, .chan none, .chan none, .chan none, .chan none, .chan none, .chan none, .chan none, .chan none, .chan none, .chan none, .chan none, .chan none, .chan none, .chan none]) (n := s.length) rfl ⟨s, rfl, rfl, by omega, rfl, rfl⟩ ?_
  rintro q a L' ⟨t, rfl, ht, hl, rfl, rfl⟩
  repeat refine LS.seq ?_
  refine LS.region rfl ?_
  refine OS.pure rfl (fun _ => rfl) rfl ?_
  refine OS.pure rfl (fun _ => rfl) rfl ?_
  refine OS.pure rfl (fun _ => rfl) rfl ?_
  refine OS.nil ?_
  repeat refine LS.seq ?_
  refine LS.cond rfl (fun hc => ?_) (fun hc => ?_)
  · have hc : (0 : Int) < t.length := lt_of hc
    cases t with
    | nil => simp at hc
    | cons c t =>
      refine LS.skip ?_
      repeat refine LS.seq ?_
      refine LS.block ?_
      repeat refine LS.seq ?_
      refine LS.region rfl ?_
      refine OS.pure rfl (fun _ => rfl) rfl ?_
      refine OS.pure rfl (fun _ => rfl) rfl ?_
      refine OS.pure rfl (e_byte (j := 0) rfl rfl rfl rfl rfl) rfl ?_
      refine OS.call noGo rfl (fun _ => rfl) ((contains_ct c).mono ?_)
      rintro v L' ⟨rfl, rfl⟩
      refine ⟨_, rfl, ?_⟩
      refine OS.pure rfl (fun _ => rfl) rfl ?_
      refine OS.nil ?_
      repeat refine LS.seq ?_
      refine LS.cond rfl (fun hb => ?_) (fun hb => ?_)
      · have hb : isBl c = false := by simpa using hb
        refine LS.exit ?_
        repeat refine LS.seq ?_
        refine LS.region rfl ?_
        refine OS.pure rfl (fun _ => rfl) rfl ?_
        refine OS.pure rfl (fun _ => rfl) rfl ?_
        refine OS.nil ?_
        refine LS.ret ⟨_, fun _ _ => rfl, ?_⟩
        refine ⟨?_, rfl⟩
        rw [← ht]; simp [tupleB, hb]
      · have hb : isBl c = true := by simpa using hb
        refine LS.skip ?_
        repeat refine LS.seq ?_
        refine LS.region rfl ?_
        refine OS.pure rfl (fun _ => rfl) rfl ?_
        refine OS.pure rfl (e_part (s := c :: t) (l := 1) (u := t.length + 1) rfl rfl rfl rfl rfl rfl rfl (by simp) (by omega)) rfl ?_
        refine OS.pure rfl (fun _ => rfl) rfl ?_
        refine OS.nil ?_
        have e1 : ((c :: t).drop 1).take (t.length + 1 - 1) = t := by simp
        rw [e1]
        refine ⟨t.length, by simp, t, rfl, ?_, by simp at hl; omega, rfl, rfl⟩
        rw [← ht]; simp [hb]
  · have hc : (t.length : Int) ≤ 0 := nlt_of hc
    have h0 : t = [] := List.eq_nil_of_length_eq_zero (by omega)
    subst h0
    refine LS.exit ?_
    repeat refine LS.seq ?_
    refine LS.region rfl ?_
    refine OS.pure rfl (fun _ => rfl) rfl ?_
    refine OS.pure rfl (fun _ => rfl) rfl ?_
    refine OS.nil ?_
    refine LS.ret ⟨_, fun _ _ => rfl, ?_⟩
    refine ⟨?_, rfl⟩
    rw [← ht]; rfl
end Go.Proofs.YtmdcfnnoeimakaaGreatDoor
