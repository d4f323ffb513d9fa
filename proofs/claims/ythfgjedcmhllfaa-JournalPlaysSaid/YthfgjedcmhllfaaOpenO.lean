/- A list of a journal's steps that is handed in: each with a list of numbers of its own. -/
import Derived.Test.YthfgjedcmhllfaaOpenI
import Derived.ChangeArms
namespace Go.Proofs.Ythfgjedcmhllfaa
open Go.ChangeShapes Go.WideShapes Go.ChangeAt Go.RowKit
set_option linter.unusedVariables false

structure OpT where
  k : UInt8
  vb : Value
  f : UInt8
  o : Bool
  N : Int
  zs : List Int
def OpT.cells (t : OpT) : List Value := [.int .u8 (t.k.toNat : Nat), t.vb, .int .u8 (t.f.toNat : Nat), .bool t.o, .int .i64 t.N]
/-- A list of numbers that lies in the world. -/
def InnerOk (w : World) (vb : Value) (zs : List Int) : Prop := (vb = .slice none 0 0 ∧ zs = []) ∨ ∃ a len cap, vb = .slice (some a) len cap ∧ len ≤ cap ∧ cap ≤ maxLen ∧ zs.length = len ∧ (cap ≠ 0 → a.spot = none ∧ a.block < w.heap.size) ∧ (∀ i z, zs[i]? = some z → w.cell? (a.add i) = some (.int .i64 z))
def OpT.fine (w : World) (t : OpT) : Prop := InnerOk w t.vb t.zs ∧ (-9223372036854775808 ≤ t.N ∧ t.N ≤ 9223372036854775807)

theorem cell_here {w : World} {a : Addr} {v : Value} (h : w.cell? (a.add 0) = some v) : a.spot = none ∧ a.block < w.heap.size := by
  have h : w.cell? a = some v := h
  unfold World.cell? at h
  split at h
  · rename_i hb
    split at h
    · cases h
    · rename_i hs
      refine ⟨by simpa using hs, (Array.getElem?_eq_some_iff.1 hb).1⟩
  · cases h

section
variable {H : Type} {enc : TypeId × Value → H} {P : Program} {W : World} {r : Reach} {b0 : Nat}
theorem inner_of {t e : TypeId} {fuel : Nat} {v : Value} {x : DataW H × List MemPlace} (ht : P.underlying t = some (.slice e)) (he : P.underlying e = some (.int .i64)) (hC : P.cellsOf e = 1) (hB : P.bytesOf e = 8)
    (h : DataW.trod enc P W 0 (fun _ => true) true fuel t [v] = some x) : ∃ zs, InnerOk W v zs ∧ ((∀ m ∈ x.1.weights P t, m ≤ reachBytes) → zs.length ≤ reachBytes) := by
  rcases open_ints ht he hC h with ⟨hcs, _⟩ | ⟨a, l, cap, zs, hcs, _, hl, hm, hz, hx, hcell, hwz⟩
  · exact ⟨[], .inl ⟨by simpa using hcs, rfl⟩, fun _ => Nat.zero_le _⟩
  · have hcs : v = .slice (some a) l cap := by simpa using hcs
    have hzc : zs.length = cap := by simpa using hz
    refine ⟨zs.take l, .inr ⟨a, l, cap, hcs, hl, hm, by simp; omega, fun h0 => cell_here (hcell 0 (by omega)), fun i z hi => ?_⟩, fun hw => ?_⟩
    · rw [List.getElem?_take] at hi
      split at hi
      · rename_i hil
        have hilz : i < zs.length := by omega
        rw [hcell i hilz]
        rw [List.getElem?_eq_getElem hilz] at hi
        simp [hilz, Option.some.inj hi]
      · cases hi
    · rw [hx] at hw
      have := hw ((lits (H := H) .i64 (zs.take l)).length * 8 + (lits (H := H) .i64 (zs.drop l)).length * 8) (by simp [DataW.weights, ht, hB, Nat.add_mul])
      simp [lits] at this ⊢
      omega

theorem op_cells {t ei : TypeId} {g0 g1 g2 g3 g4 : Field} (ht : P.underlying t = some (.struct #[g0, g1, g2, g3, g4])) (e0 : g0.offset = 0 ∧ g1.offset = 1 ∧ g2.offset = 2 ∧ g3.offset = 3 ∧ g4.offset = 4)
    (h0 : P.underlying g0.type = some (.int .u8)) (h1 : P.underlying g1.type = some (.slice ei)) (h1e : P.underlying ei = some (.int .i64)) (h1c : P.cellsOf ei = 1) (h1b : P.bytesOf ei = 8) (h2 : P.underlying g2.type = some (.int .u8)) (h3b : P.underlying g3.type = some .bool) (h4 : P.underlying g4.type = some (.int .i64))
    (hc : P.cellsOf g0.type = 1 ∧ P.cellsOf g1.type = 1 ∧ P.cellsOf g2.type = 1 ∧ P.cellsOf g3.type = 1 ∧ P.cellsOf g4.type = 1) (h5 : P.cellsOf t = 5)
    {n : Nat} {cs : List Value} {x : DataW H × List MemPlace} (h : DataW.trod enc P W 0 (fun _ => true) true n t cs = some x) :
    ∃ a : OpT, a.fine W ∧ cs = a.cells ∧ ((∀ m ∈ x.1.weights P t, m ≤ reachBytes) → a.zs.length ≤ reachBytes) := by
  obtain ⟨xs, m, _, hxs, hlen, hxl, hg⟩ := DataW.trod_struct ht h
  rw [h5] at hlen
  match cs, hlen with
  | [c0, c1, c2, c3, c4], _ =>
    have q0 := hg 0 g0 rfl
    have q1 := hg 1 g1 rfl
    have q2 := hg 2 g2 rfl
    have q3 := hg 3 g3 rfl
    have q4 := hg 4 g4 rfl
    rw [e0.1, hc.1] at q0
    rw [e0.2.1, hc.2.1] at q1
    rw [e0.2.2.1, hc.2.2.1] at q2
    rw [e0.2.2.2.1, hc.2.2.2.1] at q3
    rw [e0.2.2.2.2, hc.2.2.2.2] at q4
    simp only [List.drop_zero, List.drop_succ_cons, List.take_succ_cons, List.take_zero] at q0 q1 q2 q3 q4
    have hx : ∀ (i : Nat) (f : Field), (#[g0, g1, g2, g3, g4] : Array Field)[i]? = some f → ∃ y, xs[i]? = some y := by
      intro i f hf
      have hi : i < 5 := (Array.getElem?_eq_some_iff.1 hf).1
      have hl : xs.length = 5 := hxl
      exact ⟨_, List.getElem?_eq_getElem (by omega)⟩
    obtain ⟨y0, hy0⟩ := hx 0 g0 rfl
    obtain ⟨y1, hy1⟩ := hx 1 g1 rfl
    obtain ⟨y2, hy2⟩ := hx 2 g2 rfl
    obtain ⟨y3, hy3⟩ := hx 3 g3 rfl
    obtain ⟨y4, hy4⟩ := hx 4 g4 rfl
    obtain ⟨a0, r0, s0, w0⟩ := DataW.trod_int h0 (q0.trans hy0)
    obtain ⟨zs, i1, i2⟩ := inner_of h1 h1e h1c h1b (q1.trans hy1)
    obtain ⟨a2, r2, s2, w2⟩ := DataW.trod_int h2 (q2.trans hy2)
    obtain ⟨a3, r3, s3⟩ := DataW.trod_bool h3b (q3.trans hy3)
    obtain ⟨a4, r4, s4, w4⟩ := DataW.trod_int h4 (q4.trans hy4)
    simp only [List.cons.injEq, and_true] at r0 r2 r3 r4
    subst r0; subst r2; subst r3; subst r4
    have b0 := wf_u8 w0
    have b2 := wf_u8 w2
    have b4 := wf_i64 w4
    refine ⟨⟨UInt8.ofNat a0.toNat, c1, UInt8.ofNat a2.toNat, a3, a4, zs⟩, ⟨i1, b4⟩, ?_, fun hz => i2 fun q hq => hz q ?_⟩
    · simp only [OpT.cells]
      rw [show ((UInt8.ofNat a0.toNat).toNat : Nat) = a0.toNat by simp; omega, show ((a0.toNat : Nat) : Int) = a0 by omega, show ((UInt8.ofNat a2.toNat).toNat : Nat) = a2.toNat by simp; omega, show ((a2.toNat : Nat) : Int) = a2 by omega]
    · rw [hxs]
      have e : xs = [y0, y1, y2, y3, y4] := by
        apply List.ext_getElem?
        intro i
        match i with
        | 0 => exact hy0
        | 1 => exact hy1
        | 2 => exact hy2
        | 3 => exact hy3
        | 4 => exact hy4
        | i + 5 =>
          have hl : xs.length = 5 := hxl
          rw [List.getElem?_eq_none (by omega)]
          rfl
      rw [e]
      simp [DataW.weights, DataW.weightsEach, ht, hq]

theorem ot_at (ts : List OpT) : ∀ (i j : Nat) (a : OpT), ts[i]? = some a → j < 5 → (ts.flatMap OpT.cells)[i * 5 + j]? = a.cells[j]? := by
  induction ts with
  | nil => intro i j a h; simp at h
  | cons b r ih =>
    intro i j a h hj
    rw [List.flatMap_cons]
    cases i with
    | zero =>
      simp only [List.getElem?_cons_zero, Option.some.injEq] at h
      subst h
      rw [Nat.zero_mul, Nat.zero_add, List.getElem?_append_left (by simp [OpT.cells]; omega)]
    | succ i =>
      rw [List.getElem?_cons_succ] at h
      rw [List.getElem?_append_right (by simp [OpT.cells]; omega)]
      rw [← ih i j a h hj]
      congr 1
      simp [OpT.cells]
      omega
theorem ot_len (ts : List OpT) : (ts.flatMap OpT.cells).length = ts.length * 5 := by
  induction ts with
  | nil => rfl
  | cons a r ih => rw [List.flatMap_cons, List.length_append, ih]; simp [OpT.cells]; omega

theorem open_ops {t e ei : TypeId} {g0 g1 g2 g3 g4 : Field} (hsl : P.underlying t = some (.slice e)) (ht : P.underlying e = some (.struct #[g0, g1, g2, g3, g4])) (e0 : g0.offset = 0 ∧ g1.offset = 1 ∧ g2.offset = 2 ∧ g3.offset = 3 ∧ g4.offset = 4)
    (h0 : P.underlying g0.type = some (.int .u8)) (h1 : P.underlying g1.type = some (.slice ei)) (h1e : P.underlying ei = some (.int .i64)) (h1c : P.cellsOf ei = 1) (h1b : P.bytesOf ei = 8) (h2 : P.underlying g2.type = some (.int .u8)) (h3b : P.underlying g3.type = some .bool) (h4 : P.underlying g4.type = some (.int .i64))
    (hc : P.cellsOf g0.type = 1 ∧ P.cellsOf g1.type = 1 ∧ P.cellsOf g2.type = 1 ∧ P.cellsOf g3.type = 1 ∧ P.cellsOf g4.type = 1) (h5 : P.cellsOf e = 5)
    {v : Value} {d : DataW H} {p : List MemPlace} (hv : Value.okWide P W r b0 t v) (h : DataW.Trod enc P W 0 (fun _ => true) true t v d p) (hz : ∀ m ∈ d.weights P t, m ≤ reachBytes) :
    ∃ (A : Option Addr) (n c : Nat) (ts : List OpT), v = .slice A n c ∧ ts.length = n ∧ (∀ t ∈ ts, t.fine W ∧ t.zs.length ≤ reachBytes) ∧ n ≤ c ∧ c ≤ maxLen ∧ (0 < n → ∃ a, A = some a ∧ a.block < W.heap.size ∧ ∀ j u, (ts.flatMap OpT.cells)[j]? = some u → W.cell? (a.add j) = some u) := by
  obtain ⟨A, n, c, rfl⟩ := okWide_slice hsl hv
  obtain ⟨fuel, hf⟩ := h
  rcases Go.Deep.open_slice hsl hf with ⟨hcs, _⟩ | ⟨a, len, cap, m, q, D, Pl, hcs, hb, hl, hm, hmm, hx, hi⟩
  · simp [Value.cells] at hcs
    obtain ⟨rfl, rfl, rfl⟩ := hcs
    exact ⟨none, 0, 0, [], rfl, rfl, by simp, Nat.le_refl _, Nat.zero_le _, fun h => absurd h (Nat.lt_irrefl _)⟩
  · simp [Value.cells] at hcs
    obtain ⟨rfl, rfl, rfl⟩ := hcs
    have hmc : m = c := by simpa using hmm
    subst hmc
    have hx1 : d = .slice ((List.range n).map D) ((List.range (m - n)).map fun j => D (n + j)) := by
      injection hx
    have hth : ∀ i, ∃ b : OpT, (i < n → b.fine W ∧ b.zs.length ≤ reachBytes) ∧ (i < m → W.cells? 0 (a.add (i * 5)) 5 = some b.cells) := by
      intro i
      by_cases him : i < m
      · obtain ⟨cs', hcl, htr⟩ := hi i him
        rw [h5] at hcl
        obtain ⟨b, hbk, rfl, hbz⟩ := op_cells ht e0 h0 h1 h1e h1c h1b h2 h3b h4 hc h5 htr
        refine ⟨b, fun hin => ⟨hbk, hbz fun q hq => hz q ?_⟩, fun _ => hcl⟩
        rw [hx1]
        simp only [DataW.weights, hsl]
        exact List.mem_cons_of_mem _ (List.mem_append_left _ (mem_weightsAll (List.mem_map.2 ⟨i, List.mem_range.2 hin, rfl⟩) hq))
      · exact ⟨⟨0, .slice none 0 0, 0, false, 0, []⟩, fun _ => ⟨⟨.inl ⟨rfl, rfl⟩, by decide⟩, Nat.zero_le _⟩, fun h => absurd h him⟩
    let f : Nat → OpT := fun i => Classical.choose (hth i)
    have hf1 : ∀ i, i < n → (f i).fine W ∧ (f i).zs.length ≤ reachBytes := fun i => (Classical.choose_spec (hth i)).1
    have hf2 : ∀ i, i < m → W.cells? 0 (a.add (i * 5)) 5 = some (f i).cells := fun i => (Classical.choose_spec (hth i)).2
    have hlen : ((List.range n).map f).length = n := by simp
    have key : ∀ j u, (((List.range n).map f).flatMap OpT.cells)[j]? = some u → W.cell? (a.add j) = some u := by
      intro j u hu
      have hj := (List.getElem?_eq_some_iff.1 hu).1
      rw [ot_len, hlen] at hj
      have hj5 : j / 5 < n := by omega
      have hget : ((List.range n).map f)[j / 5]? = some (f (j / 5)) := by simp [hj5]
      have := ot_at ((List.range n).map f) (j / 5) (j % 5) (f (j / 5)) hget (by omega)
      rw [show j / 5 * 5 + j % 5 = j by omega, hu] at this
      obtain ⟨_, hcl, hat⟩ := World.cells?_some (hf2 (j / 5) (by omega))
      have h2 := hat (j % 5) (by omega)
      rw [add_add, show j / 5 * 5 + j % 5 = j by omega] at h2
      exact h2.trans this.symm
    refine ⟨some a, n, m, (List.range n).map f, rfl, hlen, fun b hb => ?_, hl, hm, fun hn => ⟨a, rfl, ?_, key⟩⟩
    · obtain ⟨i, hir, rfl⟩ := List.mem_map.1 hb
      exact hf1 i (List.mem_range.1 hir)
    · have h3 := key 0 (.int .u8 ((f 0).k.toNat : Nat)) (by
        have := ot_at ((List.range n).map f) 0 0 (f 0) (by simp [hn]) (by omega)
        exact this)
      exact (cell_here h3).2
end
end Go.Proofs.Ythfgjedcmhllfaa
namespace Go.Am
set_option linter.unusedVariables false
open Go.Proofs.Ythfgjedcmhllfaa
section
variable {P : Program} {ρ : Env} {h : AW} {w : World} {L : RL}

/-- A row that is read only is named, its cells told by others. -/
theorem enter1R (HR : HRel P ρ h w) (ro : ∀ r row, h.get r = some row → row.own = false) (H : Has h L) (l : Loc) (cs : List Value) (hb : l.block < w.heap.size)
    (hc : ∀ i v, cs[i]? = some v → ∃ u, w.cell? ⟨l.block, l.base + i, none⟩ = some u ∧ VRel ρ v u) :
    ∃ r ρ' h', ρ.le ρ' ∧ ρ' r = some l ∧ HRel P ρ' h' w ∧ (∀ r row, h'.get r = some row → row.own = false) ∧ Has h' ((r, .ro cs) :: L) := by
  obtain ⟨h', e⟩ := h.new_some (.ro cs)
  obtain ⟨_, hg, hn, hs⟩ := new_eq e
  have hnone : ρ h.next = none := HR.fresh0
  have le := upd_le (l := l) hnone
  have ro' : ∀ r row, h'.get r = some row → row.own = false := fun r row hr => by
    rw [hg] at hr
    split at hr
    · simp at hr; subst hr; rfl
    · exact ro r row hr
  refine ⟨h.next, upd ρ h.next l, h', le, by simp [upd], ⟨fun r row hr => ?_, fun r r' row row' l₁ l₂ h1 h2 _ _ _ ho => ?_, fresh_upd HR rfl hn hs, by rw [hs]; exact HR.step⟩, ro', H.new e⟩
  · rw [hg] at hr
    split at hr
    · simp at hr; subst hr; subst_vars
      exact ⟨l, by simp [upd], hb, fun i v hv => let ⟨u, a, b⟩ := hc i v hv; ⟨u, a, b.mono le⟩⟩
    · obtain ⟨l', hl', hr'⟩ := HR.loc r row hr
      exact ⟨l', le _ _ hl', hr'.keep le rfl⟩
  · rw [ro' r row h1, ro' r' row' h2] at ho; simp at ho

theorem enter_inner (HR : HRel P ρ h w) (ro : ∀ r row, h.get r = some row → row.own = false) (H : Has h L) {vb : Value} {zs : List Int} (hi : InnerOk w vb zs) (blk : Nat) (hblk : blk < w.heap.size) :
    ∃ u ρ' h' L', ρ.le ρ' ∧ VRel ρ' u vb ∧ HRel P ρ' h' w ∧ (∀ r row, h'.get r = some row → row.own = false) ∧ Has h' L' ∧ RO 1 L' u zs.length (zs.map fun z => .int .i64 z) ∧ (∀ p, p ∈ L → p ∈ L') := by
  rcases hi with ⟨rfl, rfl⟩ | ⟨a, len, cap, rfl, hl, hm, hz, hs, hcell⟩
  · exact ⟨.slice none 0 0, ρ, h, L, Env.le_refl _, .sliceNil, HR, ro, H, .inl ⟨rfl, rfl, rfl⟩, fun _ hp => hp⟩
  · subst hz
    by_cases hc0 : cap = 0
    · subst hc0
      have hz0 : zs = [] := List.eq_nil_of_length_eq_zero (by omega)
      subst hz0
      obtain ⟨r, ρ', h', le, hr, HR', ro', H'⟩ := enter1R HR ro H ⟨blk, 0, 0, 0⟩ [] hblk (fun i v hv => by simp at hv)
      exact ⟨.slice (some ⟨r, 0, none⟩) 0 0, ρ', h', _, le, .slice (Nat.le_refl _) (fun _ => rfl) (fun h => absurd rfl h), HR', ro', H', .inr ⟨r, 0, rfl, Nat.le_refl _, by unfold openCap; omega, List.mem_cons_self .., rfl⟩, fun p hp => List.mem_cons_of_mem _ hp⟩
    · obtain ⟨hsp, hbk⟩ := hs hc0
      obtain ⟨u, ρ', h', L', le, vr, HR', ro', H', R, sb⟩ := enter_slice (sz := 1) (n := zs.length) (c := cap) (cs := zs.map fun z => .int .i64 z) HR ro H (.inr ⟨a, rfl, hsp, hbk, hl, by unfold maxLen at hm; unfold openCap; omega⟩) (by simp) (ints_allFlat zs) (fun _ => ⟨a, rfl, fun j u hu => by
        rw [List.getElem?_map] at hu
        cases hzj : zs[j]? with
        | none => rw [hzj] at hu; cases hu
        | some z => rw [hzj] at hu; simp at hu; subst hu; exact hcell j z hzj⟩)
      exact ⟨u, ρ', h', L', le, vr, HR', ro', H', R, sb⟩

/-- A step, as the machine reads it. -/
def opm (t : OpT) (u : Value) : List Value := [.int .u8 (t.k.toNat : Nat), u, .int .u8 (t.f.toNat : Nat), .bool t.o, .int .i64 t.N]
theorem enter_inners (blk : Nat) (hblk : blk < w.heap.size) : ∀ {ts : List OpT} {ρ : Env} {h : AW} {L : RL}, (∀ t ∈ ts, InnerOk w t.vb t.zs) → HRel P ρ h w → (∀ r row, h.get r = some row → row.own = false) → Has h L →
    ∃ (us : List Value) (ρ' : Env) (h' : AW) (L' : RL), us.length = ts.length ∧ ρ.le ρ' ∧ HRel P ρ' h' w ∧ (∀ r row, h'.get r = some row → row.own = false) ∧ Has h' L' ∧ (∀ p, p ∈ L → p ∈ L') ∧
      ∀ (i : Nat) (t : OpT) (u : Value), ts[i]? = some t → us[i]? = some u → VRel ρ' u t.vb ∧ RO 1 L' u t.zs.length (t.zs.map fun z => .int .i64 z)
  | [], ρ, h, L, _, HR, ro, H => ⟨[], ρ, h, L, rfl, Env.le_refl _, HR, ro, H, fun _ hp => hp, fun i t u ht => by simp at ht⟩
  | t :: ts, ρ, h, L, hok, HR, ro, H => by
    obtain ⟨u, ρ1, h1, L1, le1, vr1, HR1, ro1, H1, R1, sb1⟩ := enter_inner HR ro H (hok t (List.mem_cons_self ..)) blk hblk
    obtain ⟨us, ρ2, h2, L2, hlen, le2, HR2, ro2, H2, sb2, all⟩ := enter_inners blk hblk (ts := ts) (fun t ht => hok t (List.mem_cons_of_mem _ ht)) HR1 ro1 H1
    refine ⟨u :: us, ρ2, h2, L2, by simp [hlen], (fun r l h => le2 r l (le1 r l h)), HR2, ro2, H2, fun p hp => sb2 p (sb1 p hp), fun i t' u' ht hu => ?_⟩
    cases i with
    | zero => simp at ht hu; subst ht; subst hu; exact ⟨vr1.mono le2, R1.mono sb2⟩
    | succ i => simp at ht hu; exact all i t' u' ht hu
/-- A step of a law, as the machine has it. -/
structure Opm where
  k : UInt8
  v : Value
  f : UInt8
  o : Bool
  N : Int
  zs : List Int
def Opm.cells (t : Opm) : List Value := [.int .u8 (t.k.toNat : Nat), t.v, .int .u8 (t.f.toNat : Nat), .bool t.o, .int .i64 t.N]
theorem om_len (ts : List Opm) : (ts.flatMap Opm.cells).length = ts.length * 5 := by
  induction ts with
  | nil => rfl
  | cons a r ih => rw [List.flatMap_cons, List.length_append, ih]; simp [Opm.cells]; omega
theorem om_at (ts : List Opm) : ∀ (i j : Nat) (a : Opm), ts[i]? = some a → j < 5 → (ts.flatMap Opm.cells)[i * 5 + j]? = a.cells[j]? := by
  induction ts with
  | nil => intro i j a h; simp at h
  | cons b r ih =>
    intro i j a h hj
    rw [List.flatMap_cons]
    cases i with
    | zero =>
      simp only [List.getElem?_cons_zero, Option.some.injEq] at h
      subst h
      rw [Nat.zero_mul, Nat.zero_add, List.getElem?_append_left (by simp [Opm.cells]; omega)]
    | succ i =>
      rw [List.getElem?_cons_succ] at h
      rw [List.getElem?_append_right (by simp [Opm.cells]; omega)]
      rw [← ih i j a h hj]
      congr 1
      simp [Opm.cells]
      omega
theorem om_cut {ts : List Opm} {i : Nat} {t : Opm} (h : ts[i]? = some t) : cut (ts.flatMap Opm.cells) (i * 5) 5 = some t.cells := by
  have hi : i < ts.length := (List.getElem?_eq_some_iff.1 h).1
  have hl := om_len ts
  rw [cut_of (by omega)]
  congr 1
  apply List.ext_getElem?
  intro j
  rw [List.getElem?_take]
  split
  · rename_i hj
    rw [List.getElem?_drop]
    exact om_at ts i j t h hj
  · rename_i hj
    rw [List.getElem?_eq_none (by simp [Opm.cells]; omega)]

theorem enter_ops (HR : HRel P ρ h w) (ro : ∀ r row, h.get r = some row → row.own = false) (H : Has h L) {A : Option Addr} {n c : Nat} {ts : List OpT} (hA : (A = none ∧ n = 0 ∧ c = 0) ∨ ∃ a, A = some a ∧ a.spot = none ∧ a.block < w.heap.size ∧ n ≤ c ∧ c < openCap)
    (hl : ts.length = n) (hok : ∀ t ∈ ts, t.fine w ∧ t.zs.length ≤ reachBytes) (hc : 0 < n → ∃ a, A = some a ∧ a.block < w.heap.size ∧ ∀ j u, (ts.flatMap OpT.cells)[j]? = some u → w.cell? (a.add j) = some u) :
    ∃ (v : Value) (ρ' : Env) (h' : AW) (L' : RL) (ms : List Opm), ρ.le ρ' ∧ VRel ρ' v (.slice A n c) ∧ HRel P ρ' h' w ∧ (∀ r row, h'.get r = some row → row.own = false) ∧ Has h' L' ∧ RO 5 L' v n (ms.flatMap Opm.cells) ∧ (∀ p, p ∈ L → p ∈ L') ∧
      (∀ m ∈ ms, RO 1 L' m.v m.zs.length (m.zs.map fun z => .int .i64 z) ∧ m.zs.length ≤ reachBytes ∧ (-9223372036854775808 ≤ m.N ∧ m.N ≤ 9223372036854775807)) := by
  rcases Nat.eq_zero_or_pos n with h0 | hpos
  · subst h0
    have hts : ts = [] := List.eq_nil_of_length_eq_zero hl
    subst hts
    obtain ⟨v, ρ', h', L', le, vr, HR', ro', H', R, sb⟩ := enter_slice (sz := 5) (n := 0) (c := c) (cs := []) HR ro H hA rfl rfl (fun h => absurd h (Nat.lt_irrefl _))
    exact ⟨v, ρ', h', L', [], le, vr, HR', ro', H', R, sb, fun m hm => by cases hm⟩
  · obtain ⟨a, rfl, hblk, hcell⟩ := hc hpos
    obtain ⟨us, ρ1, h1, L1, hus, le1, HR1, ro1, H1, sb1, all⟩ := enter_inners a.block hblk (ts := ts) (fun t ht => (hok t ht).1.1) HR ro H
    rcases hA with ⟨h, _⟩ | ⟨a', ha', hsp, _, hnc, hco⟩
    · cases h
    · simp at ha'
      subst ha'
      obtain ⟨bl, off, spot⟩ := a
      simp only at hsp
      subst hsp
      let ms : List Opm := (ts.zip us).map fun p => ⟨p.1.k, p.2, p.1.f, p.1.o, p.1.N, p.1.zs⟩
      have hms : ms.length = n := by simp [ms, hus, hl]
      have hget : ∀ (i : Nat) (m : Opm), ms[i]? = some m → ∃ t u, ts[i]? = some t ∧ us[i]? = some u ∧ m = ⟨t.k, u, t.f, t.o, t.N, t.zs⟩ := fun i m hm => by
        simp only [ms, List.getElem?_map, Option.map_eq_some_iff] at hm
        obtain ⟨p, hp, rfl⟩ := hm
        rw [List.getElem?_zip_eq_some] at hp
        exact ⟨p.1, p.2, hp.1, hp.2, rfl⟩
      obtain ⟨r, ρ2, h2, le2, hr, HR2, ro2, H2⟩ := enter1R HR1 ro1 H1 ⟨bl, off, 0, 0⟩ (ms.flatMap Opm.cells) hblk (fun i v hv => by
        have hi := (List.getElem?_eq_some_iff.1 hv).1
        rw [om_len, hms] at hi
        have hi5 : i / 5 < ms.length := by omega
        have hm := List.getElem?_eq_getElem hi5
        obtain ⟨t, u, ht, hu, hme⟩ := hget _ _ hm
        have h3 := om_at ms (i / 5) (i % 5) _ hm (by omega)
        rw [show i / 5 * 5 + i % 5 = i by omega, hv] at h3
        have h4 := ot_at ts (i / 5) (i % 5) t ht (by omega)
        rw [show i / 5 * 5 + i % 5 = i by omega] at h4
        have hvr := (all _ t u ht hu).1
        have hlt : i % 5 < 5 := Nat.mod_lt _ (by decide)
        rw [hme] at h3
        have hw : ∃ x, t.cells[i % 5]? = some x ∧ VRel ρ1 v x := by
          generalize i % 5 = q at h3 hlt
          match q, hlt with
          | 0, _ => simp [Opm.cells] at h3; subst h3; exact ⟨_, rfl, .int _ _⟩
          | 1, _ => simp [Opm.cells] at h3; subst h3; exact ⟨_, rfl, hvr⟩
          | 2, _ => simp [Opm.cells] at h3; subst h3; exact ⟨_, rfl, .int _ _⟩
          | 3, _ => simp [Opm.cells] at h3; subst h3; exact ⟨_, rfl, .bool _⟩
          | 4, _ => simp [Opm.cells] at h3; subst h3; exact ⟨_, rfl, .int _ _⟩
        obtain ⟨x, hx, hvx⟩ := hw
        have h5 := hcell i x (h4.trans hx)
        rw [add_eq] at h5
        exact ⟨x, h5, hvx⟩)
      refine ⟨.slice (some ⟨r, 0, none⟩) n c, ρ2, h2, _, ms, (fun r l h => le2 r l (le1 r l h)), ?_, HR2, ro2, H2, .inr ⟨r, c, rfl, hnc, hco, List.mem_cons_self .., by rw [om_len, hms]⟩, fun p hp => List.mem_cons_of_mem _ (sb1 p hp), fun m hm => ?_⟩
      · exact .slice hnc (fun _ => rfl) fun _ => ⟨_, hr, rfl, fun hh => by omega⟩
      · obtain ⟨i, hi, hie⟩ := List.getElem_of_mem hm
        obtain ⟨t, u, ht, hu, hme⟩ := hget i m (by rw [List.getElem?_eq_getElem hi, hie])
        subst hme
        have htm := List.mem_of_getElem? ht
        exact ⟨(all i t u ht hu).2.mono (fun p hp => List.mem_cons_of_mem _ hp), (hok t htm).2, (hok t htm).1.2⟩
end
end Go.Am
