/- Layer 4: a group's writes as cells; the sum; the head. -/
import Derived.Test.YteiiekfccecoiaaBDw
namespace Go.Proofs.Yteiiekfccecoiaa
open Go.Am
set_option linter.unusedVariables false
set_option maxRecDepth 20000

/-- Pairs of cells, one behind the other. -/
def pc (ps : List (Value × Value)) : List Value := ps.flatMap fun p => [p.1, p.2]
theorem pc_len (ps : List (Value × Value)) : (pc ps).length = ps.length * 2 := by
  induction ps with
  | nil => rfl
  | cons w r ih => unfold pc at *; rw [List.flatMap_cons, List.length_append, ih]; simp; omega
theorem pc_append (ps qs : List (Value × Value)) : pc (ps ++ qs) = pc ps ++ pc qs := by simp [pc]
theorem pc_at : ∀ (ps : List (Value × Value)) (i j : Nat) (p : Value × Value), ps[i]? = some p → j < 2 → (pc ps)[i * 2 + j]? = ([p.1, p.2] : List Value)[j]? := by
  intro ps
  induction ps with
  | nil => intro i j w h; simp at h
  | cons b r ih =>
    intro i j w h hj
    unfold pc at *
    rw [List.flatMap_cons]
    cases i with
    | zero =>
      simp only [List.getElem?_cons_zero, Option.some.injEq] at h
      subst h
      rw [Nat.zero_mul, Nat.zero_add, List.getElem?_append_left (by simp; omega)]
    | succ i =>
      rw [List.getElem?_cons_succ] at h
      rw [List.getElem?_append_right (by simp; omega), ← ih i j w h hj]
      congr 1
      simp
      omega
theorem pc_cut {ps : List (Value × Value)} {i : Nat} {p : Value × Value} (h : ps[i]? = some p) : Go.Am.cut (pc ps) (i * 2) 2 = some [p.1, p.2] := by
  have hi : i < ps.length := (List.getElem?_eq_some_iff.1 h).1
  have hl := pc_len ps
  rw [cut_of (by omega)]
  congr 1
  apply List.ext_getElem?
  intro j
  rw [List.getElem?_take]
  split
  · rename_i hj
    rw [List.getElem?_drop]
    exact pc_at ps i j p h hj
  · rename_i hj
    rw [List.getElem?_eq_none (by simp; omega)]

/-- A write of a group: its block, its bytes' list, its bytes. -/
structure Gw where
  b : Int
  v : Value
  d : List UInt8
def gp (gs : List Gw) : List (Value × Value) := gs.map fun g => (.int .i64 g.b, g.v)
def bd (gs : List Gw) : List (Int × List UInt8) := gs.map fun g => (g.b, g.d)
abbrev gcells (gs : List Gw) : List Value := pc (gp gs)
theorem gp_get {gs : List Gw} {i : Nat} {g : Gw} (h : gs[i]? = some g) : (gp gs)[i]? = some (.int .i64 g.b, g.v) := by simp [gp, h]
theorem bd_get {gs : List Gw} {i : Nat} {g : Gw} (h : gs[i]? = some g) : (bd gs)[i]? = some (g.b, g.d) := by simp [bd, h]
theorem gcells_len (gs : List Gw) : (gcells gs).length = gs.length * 2 := by rw [pc_len]; simp [gp]
theorem gs_len {L : RL} {l : Value} {n : Nat} {gs : List Gw} (h : SV 2 L l n (gcells gs)) : gs.length = n := by have := h.len; rw [gcells_len] at this; omega
/-- The bytes' lists read as the bytes. -/
def Reads (L : RL) (gs : List Gw) : Prop := ∀ g ∈ gs, ∃ m, SV 1 L g.v m (byteCells g.d)
theorem Reads.mono {L L' : RL} {gs : List Gw} (h : Reads L gs) (hm : ∀ p, p ∈ L → p ∈ L') : Reads L' gs := fun g hg => let ⟨m, hs⟩ := h g hg; ⟨m, hs.mono hm⟩

/-- The sum of bytes. -/
def fnv1 (s : Int) (b : UInt8) : Int := wrapB .u64 (wrapB .u64 ((bitsB .u64 s ^^^ bitsB .u64 (b.toNat : Nat) : Nat) : Int) * 1099511628211)
def fnv (s : Int) (bs : List UInt8) : Int := bs.foldl fnv1 s
theorem fnv_succ {s : Int} {bs : List UInt8} {j : Nat} {b : UInt8} (h : bs[j]? = some b) : fnv s (bs.take (j + 1)) = fnv1 (fnv s (bs.take j)) b := by
  rw [List.take_add_one, h]; simp [fnv]
def placesN (ps : List (Int × List UInt8)) (h : List UInt8) : Nat → List UInt8
  | 0 => h
  | k + 1 => match ps[k]? with
    | some p => ((placesN ps h k).set (9 + 2 * k) (u8of p.1)).set (10 + 2 * k) (u8of (p.1.fdiv 256))
    | none => placesN ps h k
theorem placesN_len {ps : List (Int × List UInt8)} {h : List UInt8} : ∀ {k : Nat}, (placesN ps h k).length = h.length
  | 0 => rfl
  | k + 1 => by
    simp only [placesN]
    split
    · simp [placesN_len (k := k)]
    · exact placesN_len
def sumN (ps : List (Int × List UInt8)) (h : List UInt8) : Nat → Int
  | 0 => fnv 14695981039346656037 (h.drop 8)
  | k + 1 => match ps[k]? with
    | some p => fnv (sumN ps h k) p.2
    | none => sumN ps h k
def sumPut (s : Int) (h : List UInt8) : Nat → List UInt8
  | 0 => h
  | k + 1 => (sumPut s h k).set k (u8of (s.fdiv ((2 ^ (min (8 * k) 64) : Nat) : Int)))
theorem sumPut_len {s : Int} {h : List UInt8} : ∀ {k : Nat}, (sumPut s h k).length = h.length
  | 0 => rfl
  | k + 1 => by simp only [sumPut, List.length_set]; exact sumPut_len
def head1 (ps : List (Int × List UInt8)) : List UInt8 := placesN ps ((List.replicate 256 0).set 8 (u8of ps.length)) ps.length
/-- The head that tells a group. -/
def headB (ps : List (Int × List UInt8)) : List UInt8 := sumPut (sumN ps (head1 ps) ps.length) (head1 ps) 8
theorem head1_len {ps : List (Int × List UInt8)} : (head1 ps).length = 256 := by unfold head1; rw [placesN_len]; simp
theorem headB_len {ps : List (Int × List UInt8)} : (headB ps).length = 256 := by unfold headB; rw [sumPut_len, head1_len]
theorem sumPut_get {s : Int} {h : List UInt8} {m : Nat} : ∀ {k : Nat}, k ≤ m → (sumPut s h k)[m]? = h[m]?
  | 0, _ => rfl
  | k + 1, hk => by
    simp only [sumPut]
    rw [List.getElem?_set_ne (by omega)]
    exact sumPut_get (by omega)
theorem placesN_get {ps : List (Int × List UInt8)} {h : List UInt8} {m : Nat} : ∀ {k : Nat}, m < 9 ∨ 9 + 2 * k ≤ m → (placesN ps h k)[m]? = h[m]?
  | 0, _ => rfl
  | k + 1, hk => by
    simp only [placesN]
    split
    · rw [List.getElem?_set_ne (by omega), List.getElem?_set_ne (by omega)]
      exact placesN_get (by omega)
    · exact placesN_get (by omega)
theorem placesN_at {ps : List (Int × List UInt8)} {h : List UInt8} {i : Nat} {p : Int × List UInt8} (hp : ps[i]? = some p) (hh : 9 + 2 * ps.length ≤ h.length) : ∀ {k : Nat}, i < k → k ≤ ps.length → (placesN ps h k)[9 + 2 * i]? = some (u8of p.1) ∧ (placesN ps h k)[10 + 2 * i]? = some (u8of (p.1.fdiv 256))
  | 0, hik, _ => by omega
  | k + 1, hik, hk => by
    have hk' : k < ps.length := by omega
    have hl := placesN_len (ps := ps) (h := h) (k := k)
    simp only [placesN, List.getElem?_eq_getElem hk']
    by_cases e : i = k
    · subst e
      rw [List.getElem?_eq_getElem hk'] at hp
      simp only [Option.some.injEq] at hp
      rw [hp]
      constructor
      · rw [List.getElem?_set_ne (by omega), List.getElem?_set_self (by omega)]
      · rw [List.getElem?_set_self (by simp; omega)]
    · obtain ⟨a, b⟩ := placesN_at hp hh (k := k) (by omega) (by omega)
      constructor
      · rw [List.getElem?_set_ne (by omega), List.getElem?_set_ne (by omega)]; exact a
      · rw [List.getElem?_set_ne (by omega), List.getElem?_set_ne (by omega)]; exact b
theorem headB_count {ps : List (Int × List UInt8)} : (headB ps)[8]? = some (u8of ps.length) := by
  unfold headB head1
  rw [sumPut_get (by omega), placesN_get (by omega), List.getElem?_set_self (by simp)]
theorem headB_at {ps : List (Int × List UInt8)} {i : Nat} {p : Int × List UInt8} (hp : ps[i]? = some p) (hl : ps.length ≤ 120) : (headB ps)[9 + 2 * i]? = some (u8of p.1) ∧ (headB ps)[10 + 2 * i]? = some (u8of (p.1.fdiv 256)) := by
  have hi : i < ps.length := (List.getElem?_eq_some_iff.1 hp).1
  unfold headB head1
  rw [sumPut_get (by omega), sumPut_get (by omega)]
  exact placesN_at hp (by simp; omega) hi (Nat.le_refl _)

theorem sum_ct {L : RL} {rs : Nat} {s : Int} {v : Value} {n : Nat} {bs : List UInt8} (hv : SV 1 L v n (byteCells bs)) (hn : n ≤ 1000000) : CS Try.prog 86 [v, ptr rs] ((rs, .cells 107 [.int .u64 s]) :: L) fun v' L' => v' = .int .u64 (fnv s bs) ∧ L' = (rs, .cells 107 [.int .u64 (fnv s bs)]) :: L := by
  have hl : bs.length = n := by have := hv.len; rw [byteCells_len] at this; omega
  refine CS.mk (fn := Try.f86) rfl rfl rfl rfl ?_
  repeat refine LS.seq ?_
  refine LS.region rfl ?_
  refine OS.pure rfl (fun _ => rfl) rfl ?_
  refine OS.nil ?_
  repeat refine LS.seq ?_
  refine LS.region rfl ?_
  refine OS.pure rfl (fun _ => rfl) rfl ?_
  refine OS.pure rfl (e_len hv rfl rfl rfl rfl rfl) rfl ?_
  refine OS.pure rfl (fun _ => rfl) rfl ?_
  refine OS.nil ?_
  repeat refine LS.seq ?_
  refine LS.block ?_
  refine LS.loopJ [1, 6, 7, 8] (fun q a L' => ∃ j, q = n - j ∧ j ≤ n ∧ L' = (rs, .cells 107 [.int .u64 (fnv s (bs.take j))]) :: L ∧
    a = [.chan none, ptr rs, .chan none, .chan none, .chan none, .chan none, v, .int .i64 (n : Nat), .int .i64 (j : Nat), .chan none, .chan none, .chan none, .chan none, .chan none, .chan none, .chan none, .chan none, .chan none, .chan none]) (n := n) rfl ⟨0, rfl, by omega, rfl, rfl⟩ ?_
  rintro q a L' ⟨j, rfl, hj, rfl, rfl⟩
  repeat refine LS.seq ?_
  refine LS.region rfl ?_
  refine OS.pure rfl (fun _ => rfl) rfl ?_
  refine OS.nil ?_
  repeat refine LS.seq ?_
  refine LS.cond rfl (fun hc => ?_) (fun hc => ?_)
  · have hc : (j : Int) < n := lt_of hc
    have hjn : j < n := by omega
    have hget : bs[j]? = some bs[j] := List.getElem?_eq_getElem (by omega)
    refine LS.skip ?_
    repeat refine LS.seq ?_
    refine LS.block ?_
    repeat refine LS.seq ?_
    refine LS.region rfl ?_
    refine OS.at1 (j := j) (u := .int .u8 (bs[j].toNat : Nat)) hv.cons (by simp [byteCells, hget]) rfl rfl rfl rfl rfl rfl (fun r0 o0 row0 cs0 m0 c0 g0 => ?_)
    refine ⟨_, rfl, ?_⟩
    refine OS.read rfl (e_loadm m0 c0 rfl rfl (part_one rfl g0)) rfl ?_
    refine OS.pure rfl (fun _ => rfl) rfl ?_
    refine OS.nil ?_
    repeat refine LS.seq ?_
    refine LS.region rfl ?_
    refine OS.read rfl (e_load 0 rfl rfl rfl rfl rfl) rfl ?_
    refine OS.pure rfl (fun _ => rfl) rfl ?_
    refine OS.pure rfl (e_conv rfl rfl rfl rfl (in_u64 (by omega) (by have := bs[j].toNat_lt; omega))) rfl ?_
    refine OS.pure rfl (fun _ => rfl) rfl ?_
    refine OS.pure rfl (fun _ => rfl) rfl ?_
    refine OS.write rfl (e_store 0 rfl rfl rfl rfl rfl rfl rfl rfl) rfl ?_
    refine OS.nil ?_
    repeat refine LS.seq ?_
    refine LS.region rfl ?_
    refine OS.pure rfl (e_add rfl rfl rfl (in_i64 (by omega) (by omega))) rfl ?_
    refine OS.pure rfl (fun _ => rfl) rfl ?_
    refine OS.nil ?_
    exact ⟨n - (j + 1), by omega, j + 1, rfl, by omega, by rw [fnv_succ hget]; rfl, rfl⟩
  have hc : (n : Int) ≤ j := nlt_of hc
  have hjn : j = bs.length := by omega
  subst hjn
  rw [List.take_length]
  refine LS.exit ?_
  repeat refine LS.seq ?_
  refine LS.region rfl ?_
  refine OS.read rfl (e_load 0 rfl rfl rfl rfl rfl) rfl ?_
  refine OS.pure rfl (fun _ => rfl) rfl ?_
  refine OS.nil ?_
  refine LS.ret ⟨_, fun _ _ => rfl, ?_⟩
  exact ⟨rfl, rfl⟩

theorem newSum_ct {L : RL} : CS Try.prog 80 [] L fun v L' => ∃ rs, v = .func (.func 86) #[] #[ptr rs] ∧ L' = (rs, .cells 107 [.int .u64 14695981039346656037]) :: L := by
  refine CS.mk (fn := Try.f80) rfl rfl rfl rfl ?_
  repeat refine LS.seq ?_
  refine LS.region rfl ?_
  refine OS.pure rfl (fun _ => rfl) rfl ?_
  refine OS.nil ?_
  repeat refine LS.seq ?_
  refine LS.region rfl ?_
  refine OS.fresh rfl (e_new (fun _ => rfl) rfl) (fun _ => rfl) (fun rs => ?_)
  refine OS.write rfl (e_store 0 rfl rfl rfl rfl rfl rfl rfl rfl) rfl ?_
  refine OS.nil ?_
  repeat refine LS.seq ?_
  refine LS.region rfl ?_
  refine OS.pure rfl (fun _ => rfl) rfl ?_
  refine OS.pure rfl (fun _ => rfl) rfl ?_
  refine OS.nil ?_
  refine LS.ret ⟨_, fun _ _ => rfl, ?_⟩
  exact ⟨rs, rfl, rfl⟩

theorem equal_ct {L : RL} {va vb : Value} {na nb : Nat} {xs ys : List UInt8} (ha : SV 1 L va na (byteCells xs)) (hb : SV 1 L vb nb (byteCells ys)) : CS Try.prog 58 [va, vb] L fun v L' => v = .bool (decide (xs = ys)) ∧ L' = L := by
  refine CS.mk (fn := Try.f58) rfl rfl rfl rfl ?_
  repeat refine LS.seq ?_
  refine LS.region rfl ?_
  refine OS.pure rfl (fun _ => rfl) rfl ?_
  refine OS.nil ?_
  repeat refine LS.seq ?_
  refine LS.region rfl ?_
  refine OS.pure rfl (fun _ => rfl) rfl ?_
  refine OS.read rfl (e_textSV (bs := xs) ha rfl rfl rfl rfl rfl) rfl ?_
  refine OS.pure rfl (fun _ => rfl) rfl ?_
  refine OS.read rfl (e_textSV (bs := ys) hb rfl rfl rfl rfl rfl) rfl ?_
  refine OS.pure rfl (e_is (fun _ => rfl) (congrArg Value.bool (show bytesEq xs ys = decide (xs = ys) by rw [bytesEq_eq]; by_cases h : xs = ys <;> simp [h]))) rfl ?_
  refine OS.pure rfl (fun _ => rfl) rfl ?_
  refine OS.nil ?_
  refine LS.ret ⟨_, fun _ _ => rfl, ?_⟩
  exact ⟨rfl, rfl⟩
end Go.Proofs.Yteiiekfccecoiaa
