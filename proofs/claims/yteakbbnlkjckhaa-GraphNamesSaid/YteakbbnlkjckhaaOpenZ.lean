/- What is handed in, read: lists of lists of numbers. -/
import Derived.Test.YteakbbnlkjckhaaOpenW
import Derived.Test.YteakbbnlkjckhaaRows
import Derived.Test.YteakbbnlkjckhaaGrG
import Derived.Deep.CondSized
import Derived.SizedLaws
namespace Go.Am
open Go.ChangeShapes Go.WideShapes Go.ChangeAt Go.RowKit Go.Proofs.Yteakbbnlkjckhaa
set_option linter.unusedVariables false
inductive Two {A B : Type} (R : A → B → Prop) : List A → List B → Prop where
  | nil : Two R [] []
  | cons {a : A} {b : B} {l : List A} {r : List B} (h : R a b) (t : Two R l r) : Two R (a :: l) (b :: r)
theorem Two.pick {A B : Type} {R : A → B → Prop} : ∀ l : List A, (∀ x, x ∈ l → ∃ y, R x y) → ∃ r, Two R l r
  | [], _ => ⟨[], .nil⟩
  | x :: l, h => by
    obtain ⟨y, hy⟩ := h x (List.mem_cons_self ..)
    obtain ⟨r, hr⟩ := Two.pick l fun z hz => h z (List.mem_cons_of_mem _ hz)
    exact ⟨y :: r, .cons hy hr⟩
theorem Two.len {A B : Type} {R : A → B → Prop} {l : List A} {r : List B} (h : Two R l r) : r.length = l.length := by
  induction h with
  | nil => rfl
  | cons _ _ ih => simp [ih]
theorem Two.back {A B : Type} {R : A → B → Prop} {l : List A} {r : List B} (h : Two R l r) : ∀ y, y ∈ r → ∃ x, x ∈ l ∧ R x y := by
  induction h with
  | nil => intro y hy; cases hy
  | cons hab _ ih =>
    intro y hy
    rcases List.mem_cons.1 hy with rfl | hy
    · exact ⟨_, List.mem_cons_self .., hab⟩
    · obtain ⟨x, hx, h⟩ := ih y hy; exact ⟨x, List.mem_cons_of_mem _ hx, h⟩
section
variable {H : Type} {P : Program} {L : RL} {n : Nat} {t e : TypeId} {cs : List Value} {d : DataW H}
/-- Nothing is more than a machine has room for. -/
def Small (P : Program) (t : TypeId) (d : DataW H) : Prop := ∀ m, m ∈ d.weights P t → m ≤ reachBytes
theorem Here.int (ht : P.underlying t = some (.int .i64)) (h : Here P L (n + 1) t cs d) : ∃ m : Int, cs = [.int .i64 m] ∧ -9223372036854775808 ≤ m ∧ m ≤ 9223372036854775807 := by
  unfold Here at h; rw [ht] at h
  obtain ⟨m, rfl, rfl, hw⟩ := h
  exact ⟨m, rfl, wf_i64 hw⟩
theorem Here.byte (ht : P.underlying t = some (.int .u8)) (h : Here P L (n + 1) t cs d) : ∃ c : UInt8, cs = [.int .u8 (c.toNat : Nat)] := by
  unfold Here at h; rw [ht] at h
  obtain ⟨m, rfl, rfl, hw⟩ := h
  have := wf_u8 hw
  exact ⟨UInt8.ofNat m.toNat, by rw [show ((UInt8.ofNat m.toNat).toNat : Nat) = m.toNat by simp; omega, show ((m.toNat : Nat) : Int) = m by omega]⟩
theorem Here.list (ht : P.underlying t = some (.slice e)) (h : Here P L (n + 1) t cs d) : ∃ (v : Value) (l : List (List Value × DataW H)), cs = [v] ∧ RO (P.cellsOf e) L v l.length (l.flatMap Prod.fst) ∧ (Small P t d → l.length * P.bytesOf e ≤ reachBytes ∧ ∀ x, x ∈ l → Small P e x.2) ∧ ∀ x, x ∈ l → x.1.length = P.cellsOf e ∧ Here P L n e x.1 x.2 := by
  unfold Here at h; rw [ht] at h
  obtain ⟨v, l, sp, rfl, hr, hd, hall⟩ := h
  refine ⟨v, l, rfl, hr, fun hz => ?_, hall⟩
  rcases hd with rfl | ⟨rfl, rfl⟩
  · refine ⟨?_, fun x hx m hm => hz m ?_⟩
    · have := hz ((l.map Prod.snd).length * P.bytesOf e + sp.length * P.bytesOf e) (by simp [DataW.weights, ht, Nat.add_mul])
      rw [List.length_map] at this; omega
    · simp only [DataW.weights, ht]
      exact List.mem_cons_of_mem _ (List.mem_append_left _ (mem_weightsAll (List.mem_map_of_mem hx) hm))
  · exact ⟨by simp, fun x hx => by cases hx⟩
theorem Here.two {f0 f1 : Field} (ht : P.underlying t = some (.struct #[f0, f1])) (h : Here P L (n + 1) t cs d) : ∃ (c0 : List Value) (d0 : DataW H) (c1 : List Value) (d1 : DataW H), cs = c0 ++ (c1 ++ []) ∧ (Small P t d → Small P f0.type d0 ∧ Small P f1.type d1) ∧ Here P L n f0.type c0 d0 ∧ Here P L n f1.type c1 d1 := by
  unfold Here at h; rw [ht] at h
  obtain ⟨l, rfl, rfl, hl, hall⟩ := h
  match l, hl with
  | [x0, x1], _ =>
    refine ⟨x0.1, x0.2, x1.1, x1.2, by simp, fun hz => ⟨fun m hm => hz m ?_, fun m hm => hz m ?_⟩, hall 0 _ _ rfl rfl, hall 1 _ _ rfl rfl⟩ <;> simp [DataW.weights, DataW.weightsEach, ht, hm]
theorem Here.three {f0 f1 f2 : Field} (ht : P.underlying t = some (.struct #[f0, f1, f2])) (h : Here P L (n + 1) t cs d) : ∃ (c0 : List Value) (d0 : DataW H) (c1 : List Value) (d1 : DataW H) (c2 : List Value) (d2 : DataW H), cs = c0 ++ (c1 ++ (c2 ++ [])) ∧ (Small P t d → Small P f0.type d0 ∧ Small P f1.type d1 ∧ Small P f2.type d2) ∧ Here P L n f0.type c0 d0 ∧ Here P L n f1.type c1 d1 ∧ Here P L n f2.type c2 d2 := by
  unfold Here at h; rw [ht] at h
  obtain ⟨l, rfl, rfl, hl, hall⟩ := h
  match l, hl with
  | [x0, x1, x2], _ =>
    refine ⟨x0.1, x0.2, x1.1, x1.2, x2.1, x2.2, by simp, fun hz => ⟨fun m hm => hz m ?_, fun m hm => hz m ?_, fun m hm => hz m ?_⟩, hall 0 _ _ rfl rfl, hall 1 _ _ rfl rfl, hall 2 _ _ rfl rfl⟩ <;> simp [DataW.weights, DataW.weightsEach, ht, hm]
theorem Here.four {f0 f1 f2 f3 : Field} (ht : P.underlying t = some (.struct #[f0, f1, f2, f3])) (h : Here P L (n + 1) t cs d) : ∃ (c0 : List Value) (d0 : DataW H) (c1 : List Value) (d1 : DataW H) (c2 : List Value) (d2 : DataW H) (c3 : List Value) (d3 : DataW H), cs = c0 ++ (c1 ++ (c2 ++ (c3 ++ []))) ∧ (Small P t d → Small P f0.type d0 ∧ Small P f1.type d1 ∧ Small P f2.type d2 ∧ Small P f3.type d3) ∧ Here P L n f0.type c0 d0 ∧ Here P L n f1.type c1 d1 ∧ Here P L n f2.type c2 d2 ∧ Here P L n f3.type c3 d3 := by
  unfold Here at h; rw [ht] at h
  obtain ⟨l, rfl, rfl, hl, hall⟩ := h
  match l, hl with
  | [x0, x1, x2, x3], _ =>
    refine ⟨x0.1, x0.2, x1.1, x1.2, x2.1, x2.2, x3.1, x3.2, by simp, fun hz => ⟨fun m hm => hz m ?_, fun m hm => hz m ?_, fun m hm => hz m ?_, fun m hm => hz m ?_⟩, hall 0 _ _ rfl rfl, hall 1 _ _ rfl rfl, hall 2 _ _ rfl rfl, hall 3 _ _ rfl rfl⟩ <;> simp [DataW.weights, DataW.weightsEach, ht, hm]
end
section
variable {H : Type} {enc : TypeId × Value → H} {P : Program} {W : World} {r : Reach} {b0 n : Nat} {ρ : Env} {h0 : AW} {L : RL} {t : TypeId} {v : Value} {d : DataW H} {p : List MemPlace}
theorem enter_struct {fs : Array Field} (ht : P.underlying t = some (.struct fs)) (ty : tyOk P n t = true) (hv : Value.okWide P W r b0 t v) (h : DataW.Trod enc P W 0 (fun _ => true) true t v d p) (hb : 0 < W.heap.size) (E : Ent P W ρ h0 L) :
    ∃ (us : List Value) (ρ' : Env) (h' : AW) (L' : RL), ρ.le ρ' ∧ VRel ρ' (.agg ⟨us⟩) v ∧ Ent P W ρ' h' L' ∧ Here P L' n t us d ∧ ∀ p, p ∈ L → p ∈ L' := by
  simp only [Value.okWide, ht] at hv
  obtain ⟨cs, rfl, _⟩ := hv
  obtain ⟨fuel, hf⟩ := h
  obtain ⟨us, ρ', h', L', le, lr, E', he, sb⟩ := enter_any 0 hb n fuel t cs.toList (d, p) ρ h0 L ty hf E
  exact ⟨us, ρ', h', L', le, .agg lr, E', he, sb⟩
theorem enter_list {e : TypeId} (ht : P.underlying t = some (.slice e)) (ty : tyOk P n t = true) (hv : Value.okWide P W r b0 t v) (h : DataW.Trod enc P W 0 (fun _ => true) true t v d p) (hb : 0 < W.heap.size) (E : Ent P W ρ h0 L) :
    ∃ (u : Value) (ρ' : Env) (h' : AW) (L' : RL), ρ.le ρ' ∧ VRel ρ' u v ∧ Ent P W ρ' h' L' ∧ Here P L' n t [u] d ∧ ∀ p, p ∈ L → p ∈ L' := by
  obtain ⟨A, m, c, rfl⟩ := okWide_slice ht hv
  obtain ⟨fuel, hf⟩ := h
  obtain ⟨us, ρ', h', L', le, lr, E', he, sb⟩ := enter_any 0 hb n fuel t [.slice A m c] (d, p) ρ h0 L ty (by simpa [Value.cells] using hf) E
  cases lr with
  | cons hv hs =>
    cases hs
    exact ⟨_, ρ', h', L', le, hv, E', he, sb⟩
end
section
variable {H : Type} {enc : TypeId × Value → H}
theorem shaped_size {P : Program} {w : World} (h : w.ShapedOpen P) (hb : P.globals.size < (begin P (fun _ _ => 0) default).world.heap.size) : P.globals.size < w.heap.size := by
  obtain ⟨o, _, ho, _⟩ := h.2 _ (Nat.le_refl _) hb
  rcases Nat.lt_or_ge P.globals.size w.heap.size with h | h
  · exact h
  · rw [Array.getElem?_eq_none h] at ho; cases ho
/-- As the kit's way in, but that the world's shape is handed on. -/
theorem sized_shaped {a : Assume} {C : Checked} {os : Os} {f : FuncId} {fn : Func} {s : ChangeSpec} {conds : List PathCond} {apart fresh handsOn again : Bool}
    (own : ownKnob C.prog.godebug = none) (started : os.Started) (noInit : C.prog.inits.idxOf? f = none) (hfn : C.prog.funcs[f]? = some fn)
    (witness : ∃ (w : World) (tape : Tape) (i : Input), w.os = os ∧ (w.forCall tape i).Shaped C.prog ∧ i.vars = [] ∧ Input.okWide C.prog (w.forCall tape i) .any w.heap.size f i ∧
      s.pre6 enc C.prog fn conds apart (w.forCall tape i).memory i.args ∧ a.holds C.prog (lone (Frame.enter C.prog f i.args .normal) [] (w.forCall tape i)))
    (contract : ∀ (W : World) (base : Nat) (args : Array Value) (ds gs : List (DataW H)) (before : List MemPlace), W.ShapedOpen C.prog →
      (∀ (j : Nat) t v, fn.params[j]? = some t → args[j]? = some v → Value.okWide C.prog W .any base t v) →
      DataW.Whole enc C.prog fn.params.toList s.vars apart W args.toList ds gs before →
      (DataW.weightsEach C.prog (fn.params.toList ++ s.plain.varTypes C.prog) (ds ++ gs)).all (· ≤ reachBytes) = true →
      Calls C.prog f args W fun e W' => ∃ v, e = .returned v ∧ s.post enc C.prog fn apart fresh handsOn again W args v W') :
    ReturnsInHanded a C os f .any (s.pre6 enc C.prog fn conds apart) (s.post enc C.prog fn apart fresh handsOn again) := by
  refine returnsInHanded_of_calls own started noInit witness ?_
  intro w tape i _ hsh _ hok hpre hholds
  obtain ⟨_, _, _, fn', hfn', _, _, _, _, hval⟩ := hok
  obtain rfl : fn' = fn := Option.some.inj (hfn'.symm.trans hfn)
  obtain ⟨⟨ds, gs, before, hw, hc⟩, hz⟩ := hpre
  have hw' := DataW.Whole.of_heap (w' := w.forCall tape i) (by rfl) hw
  refine (contract (w.forCall tape i) w.heap.size i.args ds gs before hsh hval hw' (hz.weights hw)).mono fun e W' ⟨v, he, hp⟩ => ?_
  subst he
  exact ChangeSpec.post_blind hp
theorem cond_shaped {a : Assume} {C : Checked} {os : Os} {f : FuncId} {fn : Func} {s : OpenSpec} {k : (H : Type) → List (DataW H) → Bool} (hk : s.cond = some k) {F : Stop.Interp} {conds : List PathCond} {apart fresh handsOn again : Bool}
    (own : ownKnob C.prog.godebug = none) (started : os.Started) (noInit : C.prog.inits.idxOf? f = none) (hfn : C.prog.funcs[f]? = some fn)
    (witness : ∃ (w : World) (tape : Tape) (i : Input), w.os = os ∧ (w.forCall tape i).Shaped C.prog ∧ i.vars = [] ∧ Input.okWide C.prog (w.forCall tape i) .any w.heap.size f i ∧
      s.pre6 enc C.prog fn conds apart (w.forCall tape i).memory i.args ∧ a.holds C.prog (lone (Frame.enter C.prog f i.args .normal) [] (w.forCall tape i)))
    (contract : ∀ (W : World) (base : Nat) (args : Array Value) (ds gs : List (DataW H)) (before : List MemPlace), W.ShapedOpen C.prog →
      (∀ (j : Nat) t v, fn.params[j]? = some t → args[j]? = some v → Value.okWide C.prog W .any base t v) →
      DataW.Whole enc C.prog fn.params.toList s.vars apart W args.toList ds gs before → k H (ds ++ gs) = true →
      Calls C.prog f args W fun e W' => ∃ v, e = .returned v ∧ (s.at F).post enc C.prog fn apart fresh handsOn again W args v W') :
    ReturnsInHanded a C os f .any (s.pre6 enc C.prog fn conds apart) ((s.at F).post enc C.prog fn apart fresh handsOn again) := by
  refine returnsInHanded_of_calls own started noInit witness ?_
  intro w tape i _ hsh _ hok hpre hholds
  obtain ⟨_, _, _, fn', hfn', _, _, _, _, hval⟩ := hok
  obtain rfl : fn' = fn := Option.some.inj (hfn'.symm.trans hfn)
  obtain ⟨ds, gs, before, hw, hc, hkk⟩ := (OpenSpec.pre_some hk conds apart _ _).1 hpre.1
  have hw' := DataW.Whole.of_heap (w' := w.forCall tape i) (by rfl) hw
  refine (contract (w.forCall tape i) w.heap.size i.args ds gs before hsh hval hw' hkk).mono fun e W' ⟨v, he, hp⟩ => ?_
  subst he
  exact ChangeSpec.post_blind hp
end
end Go.Am
namespace Go.Proofs.Yteakbbnlkjckhaa
open Go.Am
set_option linter.unusedVariables false
set_option linter.unusedSimpArgs false
set_option maxRecDepth 20000
theorem reach_is : Go.reachBytes = 140737488351232 := rfl
theorem hpos {W : World} (h : W.ShapedOpen Try.prog) : 0 < W.heap.size := Nat.lt_of_le_of_lt (Nat.zero_le _) (Am.shaped_size h (of_decide_eq_true (by kernel_rfl)))
theorem ty_needs : tyOk Try.prog 6 24 = true := by kernel_rfl
/-- Small enough to be held. -/
def FitsH (Z : List (List Int)) : Prop := Z.length ≤ 140737488351232 ∧ ∀ w, w ∈ Z → w.length ≤ 140737488351232
section
variable {H : Type} {L : RL} {n : Nat} {cs : List Value} {d : DataW H}
theorem here_ints (h : Here Try.prog L (n + 2) 23 cs d) : ∃ (v : Value) (ws : List Int), cs = [v] ∧ RO 1 L v ws.length (zs ws) ∧ (Small Try.prog 23 d → ws.length * 8 ≤ 140737488351232) := by
  obtain ⟨v, l, rfl, hr, hz, hall⟩ := Here.list Try.underlying23 h
  obtain ⟨ws, hws⟩ := Two.pick (R := fun (x : List Value × DataW H) (m : Int) => x ∈ l ∧ x.1 = [iZ m]) l fun x hx => by
    obtain ⟨m, h1, _⟩ := Here.int Try.underlying3 (hall x hx).2
    exact ⟨m, hx, h1⟩
  have hlen := hws.len
  have hcs : l.flatMap Prod.fst = zs ws := by
    have key : ∀ {l0 : List (List Value × DataW H)} {ws : List Int}, Two (fun (x : List Value × DataW H) (m : Int) => x ∈ l ∧ x.1 = [iZ m]) l0 ws → l0.flatMap Prod.fst = zs ws := fun h => by
      induction h with
      | nil => rfl
      | cons h _ ih => rw [List.flatMap_cons, ih, h.2]; rfl
    exact key hws
  have hc : Try.prog.cellsOf 3 = 1 := by kernel_rfl
  have hb : Try.prog.bytesOf 3 = 8 := by kernel_rfl
  rw [hcs, hc] at hr
  refine ⟨v, ws, rfl, by rw [hlen]; exact hr, fun hs => ?_⟩
  obtain ⟨h1, _⟩ := hz hs
  rw [hb, reach_is] at h1
  rw [hlen]; exact h1
theorem here_needs (h : Here Try.prog L (n + 5) 24 cs d) : ∃ v Z, cs = [v] ∧ NL L v (zv Z) ∧ (Small Try.prog 24 d → FitsH Z) := by
  obtain ⟨v, l, rfl, hr, hz, hall⟩ := Here.list Try.underlying24 h
  obtain ⟨Z, hits⟩ := Two.pick (R := fun (x : List Value × DataW H) (w : List Int) => x ∈ l ∧ ∃ a, x.1 = [a] ∧ SV 1 L a w.length (zs w) ∧ (Small Try.prog 23 x.2 → w.length ≤ 140737488351232)) l fun x hx => by
    obtain ⟨a, w, h1, h2, h3⟩ := here_ints (n := n + 2) (hall x hx).2
    exact ⟨w, hx, a, h1, h2.sv, fun hs => by have := h3 hs; omega⟩
  have hlen := hits.len
  have hcs : ∀ (i : Nat) (w : List Int), Z[i]? = some w → ∃ a, (l.flatMap Prod.fst)[i]? = some a ∧ SV 1 L a w.length (zs w) := by
    have key : ∀ {l0 : List (List Value × DataW H)} {Z : List (List Int)}, Two (fun (x : List Value × DataW H) (w : List Int) => x ∈ l ∧ ∃ a, x.1 = [a] ∧ SV 1 L a w.length (zs w) ∧ (Small Try.prog 23 x.2 → w.length ≤ 140737488351232)) l0 Z → ∀ (i : Nat) (w : List Int), Z[i]? = some w → ∃ a, (l0.flatMap Prod.fst)[i]? = some a ∧ SV 1 L a w.length (zs w) := fun h => by
      induction h with
      | nil => intro i w hw; simp at hw
      | cons h _ ih =>
        obtain ⟨_, a, e1, e2, _⟩ := h
        intro i w hw
        rw [List.flatMap_cons, e1]
        cases i with
        | zero => simp at hw; subst hw; exact ⟨a, rfl, e2⟩
        | succ i => exact ih i w (by simpa using hw)
    exact key hits
  have hc3 : Try.prog.cellsOf 23 = 1 := by kernel_rfl
  have hb3 : Try.prog.bytesOf 23 = 24 := by kernel_rfl
  rw [hc3] at hr
  refine ⟨v, Z, rfl, ⟨_, by rw [zv_len, hlen]; exact hr.sv, fun i w hw => ?_⟩, fun hsm => ?_⟩
  · rw [zv, List.getElem?_map] at hw
    obtain ⟨x, hx, rfl⟩ := Option.map_eq_some_iff.1 hw
    obtain ⟨a, h1, h2⟩ := hcs i x hx
    rw [zs_len]
    exact ⟨a, h1, h2⟩
  · obtain ⟨q1, q2⟩ := hz hsm
    rw [hb3, reach_is] at q1
    refine ⟨by rw [hlen]; omega, fun w hw => ?_⟩
    obtain ⟨x, hx, hxl, a, _, _, hb⟩ := hits.back w hw
    exact hb (q2 x hx)
end
end Go.Proofs.Yteakbbnlkjckhaa
