/- Layer 14: axes in memory; a counter. -/
import Derived.Test.YtllcbjaajffaeaaMf
namespace Go.Mx
def ctS (ns bs : List Nat) (j : Nat) : List Nat := bs.take j ++ (nxt (ns.drop j) (bs.drop j)).1
def ctF (ns bs : List Nat) (j : Nat) : Bool := (nxt (ns.drop j) (bs.drop j)).2
theorem drop_at {A : Type} {l : List A} {k : Nat} {a : A} (h : l[k]? = some a) : l.drop k = a :: l.drop (k + 1) := by
  have hl := (List.getElem?_eq_some_iff.1 h).1
  rw [List.drop_eq_getElem_cons hl]; congr 1; exact (List.getElem?_eq_some_iff.1 h).2
theorem ctS_top (ns bs : List Nat) (hl : ns.length = bs.length) : ctS ns bs bs.length = bs ∧ ctF ns bs bs.length = false := by
  unfold ctS ctF
  rw [List.drop_of_length_le (by omega : ns.length ≤ bs.length), List.drop_length, List.take_length]
  simp [nxt]
theorem ctS_len (ns bs : List Nat) (hl : ns.length = bs.length) (j : Nat) : (ctS ns bs j).length = bs.length := by
  unfold ctS
  rw [List.length_append, nxt_len _ _ (by simp [hl]), List.length_take, List.length_drop]; omega
theorem ctS_at {ns bs : List Nat} {k a : Nat} (h : bs[k]? = some a) : (ctS ns bs (k + 1))[k]? = some a := by
  unfold ctS
  have hl := (List.getElem?_eq_some_iff.1 h).1
  rw [List.getElem?_append_left (by simp; omega), List.getElem?_take_of_lt (by omega)]
  exact h
theorem ct_tail {ns bs : List Nat} {k a v : Nat} (h : bs[k]? = some a) : (ctS ns bs (k + 1)).set k v = bs.take k ++ v :: (nxt (ns.drop (k + 1)) (bs.drop (k + 1))).1 := by
  have hl := (List.getElem?_eq_some_iff.1 h).1
  unfold ctS
  rw [List.set_append_left _ _ (by simp; omega), take_one' h, List.set_append_right _ _ (by simp; omega)]
  simp [Nat.min_eq_left (Nat.le_of_lt hl)]
where
  take_one' {l : List Nat} {k a : Nat} (h : l[k]? = some a) : l.take (k + 1) = l.take k ++ [a] := by rw [List.take_add_one, h]; rfl
theorem ct_yes {ns bs : List Nat} {k a n : Nat} (hl : ns.length = bs.length) (ha : bs[k]? = some a) (hn : ns[k]? = some n) (hf : ctF ns bs (k + 1) = false) (hlt : a + 1 < n) : nxt ns bs = ((ctS ns bs (k + 1)).set k (a + 1), true) := by
  have hk := (List.getElem?_eq_some_iff.1 ha).1
  rw [ct_tail ha]
  conv => lhs; rw [← List.take_append_drop k ns, ← List.take_append_drop k bs, drop_at ha, drop_at hn]
  rw [nxt_app _ _ _ _ (by simp; omega), nxt_cons]
  unfold ctF at hf
  simp [hf, hlt]
theorem ct_no {ns bs : List Nat} {k a n : Nat} (_hl : ns.length = bs.length) (ha : bs[k]? = some a) (hn : ns[k]? = some n) (hf : ctF ns bs (k + 1) = false) (hlt : ¬ a + 1 < n) : ctS ns bs k = (ctS ns bs (k + 1)).set k 0 ∧ ctF ns bs k = false := by
  rw [ct_tail ha]
  unfold ctF at hf
  unfold ctS ctF
  rw [drop_at ha, drop_at hn, nxt_cons]
  simp [hf, hlt]
theorem ct_end (ns bs : List Nat) : ctS ns bs 0 = (nxt ns bs).1 ∧ ctF ns bs 0 = (nxt ns bs).2 := by simp [ctS, ctF]
end Go.Mx
namespace Go.Proofs.Ytllcbjaajffaeaa
open Go.Am Go.Mx
set_option linter.unusedVariables false
set_option linter.unusedSimpArgs false
set_option maxRecDepth 20000
set_option maxHeartbeats 4000000
attribute [local irreducible] OS LSr ODS CS
/-- Axes, as cells whose lists lie in these rows. -/
def AxR (M : RL) : List Ax → List Value → Prop
  | [], cs => cs = []
  | x :: r, cs => ∃ a cs', cs = str x.1 :: a :: cs' ∧ SV 1 M a x.2.length (strs x.2) ∧ AxR M r cs'
theorem AxR.mono {M M' : RL} (hm : ∀ p, p ∈ M → p ∈ M') : ∀ {l : List Ax} {cs : List Value}, AxR M l cs → AxR M' l cs
  | [], _, h => h
  | x :: r, _, ⟨a, cs', h1, h2, h3⟩ => ⟨a, cs', h1, h2.mono hm, h3.mono hm⟩
theorem AxR.len {M : RL} : ∀ {l : List Ax} {cs : List Value}, AxR M l cs → cs.length = l.length * 2
  | [], _, h => by rw [show _ = [] from h]; rfl
  | x :: r, _, ⟨a, cs', h1, h2, h3⟩ => by rw [h1]; simp [h3.len]; omega
theorem AxR.get {M : RL} : ∀ {l : List Ax} {cs : List Value} {i : Nat} {x : Ax}, AxR M l cs → l[i]? = some x → cs[i * 2 + 0]? = some (str x.1) ∧ ∃ a, cs[i * 2 + 1]? = some a ∧ SV 1 M a x.2.length (strs x.2) ∧ cut cs (i * 2) 2 = some [str x.1, a]
  | [], _, i, x, _, h => by simp at h
  | y :: l, _, 0, x, ⟨a, cs', h1, h2, h3⟩, h => by
    simp at h; subst h; subst h1
    exact ⟨rfl, a, rfl, h2, by simp [cut, takeB]⟩
  | y :: l, _, i + 1, x, ⟨a, cs', h1, h2, h3⟩, h => by
    subst h1
    obtain ⟨g1, b, g2, g3, g4⟩ := AxR.get (i := i) h3 (by simpa using h)
    have e0 : (i + 1) * 2 + 0 = (i * 2 + 0) + 1 + 1 := by omega
    have e1 : (i + 1) * 2 + 1 = (i * 2 + 1) + 1 + 1 := by omega
    refine ⟨by rw [e0]; simpa using g1, b, by rw [e1]; simpa using g2, g3, ?_⟩
    rw [show (i + 1) * 2 = i * 2 + 1 + 1 by omega]
    simpa [cut] using g4
theorem AxR.snoc {M : RL} {x : Ax} {a : Value} (hx : SV 1 M a x.2.length (strs x.2)) : ∀ {l : List Ax} {cs : List Value}, AxR M l cs → AxR M (l ++ [x]) (cs ++ [str x.1, a])
  | [], _, h => by rw [show _ = [] from h]; exact ⟨a, [], rfl, hx, rfl⟩
  | y :: r, _, ⟨b, cs', h1, h2, h3⟩ => ⟨b, _, by rw [h1]; rfl, h2, h3.snoc hx⟩
def ints (l : List Nat) : List Value := l.map fun k => .int .i64 (k : Nat)
theorem ints_len (l : List Nat) : (ints l).length = l.length := by simp [ints]
theorem ints_at {l : List Nat} {j a : Nat} (h : l[j]? = some a) : (ints l)[j]? = some (.int .i64 (a : Nat)) := by simp [ints, h]
theorem ints_set (l : List Nat) (j a : Nat) : (ints l).set j (.int .i64 (a : Nat)) = ints (l.set j a) := by simp [ints, List.map_set]
theorem strs_set (l : List W) (j : Nat) (w : W) : (strs l).set j (str w) = strs (l.set j w) := by simp [strs, List.map_set]
/-- A counter that stands at a row. -/
abbrev ctr (rc ra rr : Nat) (lv : Value) (n : Nat) (at' : List Nat) (row : List W) (F : RL) : RL :=
  (rc, .cells 102 [lv, .slice (some ⟨ra, 0, none⟩) n n, .slice (some ⟨rr, 0, none⟩) n n]) :: (ra, .cells 3 (ints at')) :: (rr, .cells 9 (strs row)) :: F
theorem turn_ct {F : RL} {rc ra rr n : Nat} {lv : Value} {l : List Ax} {cs : List Value} {at' : List Nat} {row : List W} {i to : Nat} {x : Ax} {w : W} (hv : SV 2 F lv n cs) (hx : AxR F l cs) (hl : l.length = n) (ha : at'.length = n) (hr : row.length = n) (hi : l[i]? = some x) (hw : x.2[to]? = some w) :
    CS Try.prog 56 [ptr rc, .int .i64 (i : Nat), .int .i64 (to : Nat)] (ctr rc ra rr lv n at' row F) fun v L' => L' = ctr rc ra rr lv n (at'.set i to) (row.set i w) F := by
  have hin : i < n := by have := (List.getElem?_eq_some_iff.1 hi).1; omega
  have hto : to < x.2.length := (List.getElem?_eq_some_iff.1 hw).1
  obtain ⟨_, a, g1, g2, _⟩ := hx.get hi
  have up : ∀ {at' : List Nat} {p : Nat × ARow}, p ∈ F → p ∈ ctr rc ra rr lv n at' row F := fun hp => List.mem_cons_of_mem _ (List.mem_cons_of_mem _ (List.mem_cons_of_mem _ hp))
  refine CS.mk (fn := Try.f56) rfl rfl rfl rfl ?_
  refine yG ?_
  refine OS.pure rfl (e_index (j := i) (sz := 1) rfl rfl rfl rfl rfl (by omega)) rfl ?_
  refine OS.write rfl (e_store 1 (n := 1) rfl rfl rfl rfl rfl rfl (lay_one (by rw [ints_len]; omega)) rfl) rfl ?_
  rw [show 0 + i * 1 = i by omega, ints_set]
  refine OS.nil ?_
  repeat refine LS.seq ?_
  refine LS.drawn noGo mixed [(0, false), (1, false), (2, false), (3, false), (4, false), (5, false), (6, false), (7, false), (8, false), (9, false), (10, false), (11, false), (12, false), (13, false), (14, false), (15, false), (16, false), (17, true)] rfl rfl (by kernel_rfl) ?_
  refine yG ?_
  refine ODS.at (j := i) (hv.mono fun p hp => up hp) hin rfl rfl rfl rfl rfl rfl rfl (fun r0 o0 row0 cs0 m0 c0 h0 k0 => ?_)
  refine ⟨_, rfl, ?_⟩
  refine yG ?_
  refine ODS.read rfl rfl (e_loadm m0 c0 rfl rfl (part_one rfl (h0 1 _ (by omega) g1))) rfl ?_
  refine yG ?_
  refine ODS.at1 (j := to) (g2.mono fun p hp => up hp) (strs_at hw) rfl rfl rfl rfl rfl rfl rfl (fun ra2 oa2 rowa2 csa2 ma2 ca2 ga2 => ⟨_, rfl, ?_⟩)
  refine ODS.read rfl rfl (e_loadm ma2 ca2 rfl rfl (part_one rfl ga2)) rfl ?_
  refine yG ?_
  refine ODS.pure rfl rfl (e_index (j := i) (sz := 1) rfl rfl rfl rfl rfl (by omega)) rfl ?_
  refine ODS.write rfl rfl (e_store 2 (n := 1) rfl rfl rfl rfl rfl rfl (lay_one (by rw [strs_len]; omega)) rfl) rfl (by repeat (first | exact Keep.nil | refine Keep.gone rfl ?_)) ?_
  rw [show 0 + i * 1 = i by omega, strs_set]
  refine ODS.nil ?_
  refine ⟨_, fun _ _ => rfl, ?_⟩
  rfl
end Go.Proofs.Ytllcbjaajffaeaa
