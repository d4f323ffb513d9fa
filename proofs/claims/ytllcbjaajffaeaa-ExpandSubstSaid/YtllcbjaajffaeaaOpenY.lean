/- What is handed in, read: texts, lists of texts, axes; whatever the size, or small. -/
import Derived.Test.YtllcbjaajffaeaaOpenW
import Derived.Test.YtllcbjaajffaeaaRows
import Derived.Test.YtllcbjaajffaeaaMr
import Derived.Deep.CondSized
import Derived.SizedLaws
namespace Go.Am
open Go.ChangeShapes Go.WideShapes Go.ChangeAt Go.RowKit Go.Proofs.Ytllcbjaajffaeaa
set_option linter.unusedVariables false
inductive Two {A B : Type} (R : A → B → Prop) : List A → List B → Prop where
  | nil : Two R [] []
  | cons {a : A} {b : B} {l : List A} {r : List B} (h : R a b) (t : Two R l r) : Two R (a :: l) (b :: r)
theorem Two.pick {A B : Type} {R : A → B → Prop} : ∀ l : List A, (∀ x, x ∈ l → ∃ y, R x y) → ∃ r, Two R l r
  | [], _ => ⟨[], .nil⟩
  | x :: l, h => by
    obtain ⟨y, hy⟩ := h x (List.mem_cons_self ..)
    obtain ⟨r, hr⟩ := Two.pick l fun z hz => h z (List.mem_cons_of_mem _ hz)
    exact ⟨y :: r, .cons hy hr⟩
theorem Two.len {A B : Type} {R : A → B → Prop} {l : List A} {r : List B} (h : Two R l r) : r.length = l.length := by
  induction h with
  | nil => rfl
  | cons _ _ ih => simp [ih]
theorem Two.back {A B : Type} {R : A → B → Prop} {l : List A} {r : List B} (h : Two R l r) : ∀ y, y ∈ r → ∃ x, x ∈ l ∧ R x y := by
  induction h with
  | nil => intro y hy; cases hy
  | cons hab _ ih =>
    intro y hy
    rcases List.mem_cons.1 hy with rfl | hy
    · exact ⟨_, List.mem_cons_self .., hab⟩
    · obtain ⟨x, hx, h⟩ := ih y hy; exact ⟨x, List.mem_cons_of_mem _ hx, h⟩
section
variable {H : Type} {P : Program} {L : RL} {n : Nat} {t e : TypeId} {cs : List Value} {d : DataW H}
/-- Nothing is more than a machine has room for. -/
def Small (P : Program) (t : TypeId) (d : DataW H) : Prop := ∀ m, m ∈ d.weights P t → m ≤ reachBytes
theorem Here.text (ht : P.underlying t = some .string) (h : Here P L (n + 1) t cs d) : ∃ s : List UInt8, cs = [str s] ∧ (Small P t d → s.length ≤ reachBytes) := by
  unfold Here at h; rw [ht] at h
  obtain ⟨s, rfl, rfl⟩ := h
  exact ⟨s.data.toList, rfl, fun hz => hz _ (by simp [DataW.weights])⟩
theorem Here.int (ht : P.underlying t = some (.int .i64)) (h : Here P L (n + 1) t cs d) : ∃ m : Int, cs = [.int .i64 m] ∧ -9223372036854775808 ≤ m ∧ m ≤ 9223372036854775807 := by
  unfold Here at h; rw [ht] at h
  obtain ⟨m, rfl, rfl, hw⟩ := h
  exact ⟨m, rfl, wf_i64 hw⟩
theorem Here.byte (ht : P.underlying t = some (.int .u8)) (h : Here P L (n + 1) t cs d) : ∃ c : UInt8, cs = [.int .u8 (c.toNat : Nat)] := by
  unfold Here at h; rw [ht] at h
  obtain ⟨m, rfl, rfl, hw⟩ := h
  have := wf_u8 hw
  exact ⟨UInt8.ofNat m.toNat, by rw [show ((UInt8.ofNat m.toNat).toNat : Nat) = m.toNat by simp; omega, show ((m.toNat : Nat) : Int) = m by omega]⟩
theorem Here.list (ht : P.underlying t = some (.slice e)) (h : Here P L (n + 1) t cs d) : ∃ (v : Value) (l : List (List Value × DataW H)), cs = [v] ∧ RO (P.cellsOf e) L v l.length (l.flatMap Prod.fst) ∧ (Small P t d → l.length * P.bytesOf e ≤ reachBytes ∧ ∀ x, x ∈ l → Small P e x.2) ∧ ∀ x, x ∈ l → x.1.length = P.cellsOf e ∧ Here P L n e x.1 x.2 := by
  unfold Here at h; rw [ht] at h
  obtain ⟨v, l, sp, rfl, hr, hd, hall⟩ := h
  refine ⟨v, l, rfl, hr, fun hz => ?_, hall⟩
  rcases hd with rfl | ⟨rfl, rfl⟩
  · refine ⟨?_, fun x hx m hm => hz m ?_⟩
    · have := hz ((l.map Prod.snd).length * P.bytesOf e + sp.length * P.bytesOf e) (by simp [DataW.weights, ht, Nat.add_mul])
      rw [List.length_map] at this; omega
    · simp only [DataW.weights, ht]
      exact List.mem_cons_of_mem _ (List.mem_append_left _ (mem_weightsAll (List.mem_map_of_mem hx) hm))
  · exact ⟨by simp, fun x hx => by cases hx⟩
theorem Here.two {f0 f1 : Field} (ht : P.underlying t = some (.struct #[f0, f1])) (h : Here P L (n + 1) t cs d) : ∃ (c0 : List Value) (d0 : DataW H) (c1 : List Value) (d1 : DataW H), cs = c0 ++ (c1 ++ []) ∧ (Small P t d → Small P f0.type d0 ∧ Small P f1.type d1) ∧ Here P L n f0.type c0 d0 ∧ Here P L n f1.type c1 d1 := by
  unfold Here at h; rw [ht] at h
  obtain ⟨l, rfl, rfl, hl, hall⟩ := h
  match l, hl with
  | [x0, x1], _ =>
    refine ⟨x0.1, x0.2, x1.1, x1.2, by simp, fun hz => ⟨fun m hm => hz m ?_, fun m hm => hz m ?_⟩, hall 0 _ _ rfl rfl, hall 1 _ _ rfl rfl⟩ <;> simp [DataW.weights, DataW.weightsEach, ht, hm]
theorem Here.three {f0 f1 f2 : Field} (ht : P.underlying t = some (.struct #[f0, f1, f2])) (h : Here P L (n + 1) t cs d) : ∃ (c0 : List Value) (d0 : DataW H) (c1 : List Value) (d1 : DataW H) (c2 : List Value) (d2 : DataW H), cs = c0 ++ (c1 ++ (c2 ++ [])) ∧ (Small P t d → Small P f0.type d0 ∧ Small P f1.type d1 ∧ Small P f2.type d2) ∧ Here P L n f0.type c0 d0 ∧ Here P L n f1.type c1 d1 ∧ Here P L n f2.type c2 d2 := by
  unfold Here at h; rw [ht] at h
  obtain ⟨l, rfl, rfl, hl, hall⟩ := h
  match l, hl with
  | [x0, x1, x2], _ =>
    refine ⟨x0.1, x0.2, x1.1, x1.2, x2.1, x2.2, by simp, fun hz => ⟨fun m hm => hz m ?_, fun m hm => hz m ?_, fun m hm => hz m ?_⟩, hall 0 _ _ rfl rfl, hall 1 _ _ rfl rfl, hall 2 _ _ rfl rfl⟩ <;> simp [DataW.weights, DataW.weightsEach, ht, hm]
theorem Here.four {f0 f1 f2 f3 : Field} (ht : P.underlying t = some (.struct #[f0, f1, f2, f3])) (h : Here P L (n + 1) t cs d) : ∃ (c0 : List Value) (d0 : DataW H) (c1 : List Value) (d1 : DataW H) (c2 : List Value) (d2 : DataW H) (c3 : List Value) (d3 : DataW H), cs = c0 ++ (c1 ++ (c2 ++ (c3 ++ []))) ∧ (Small P t d → Small P f0.type d0 ∧ Small P f1.type d1 ∧ Small P f2.type d2 ∧ Small P f3.type d3) ∧ Here P L n f0.type c0 d0 ∧ Here P L n f1.type c1 d1 ∧ Here P L n f2.type c2 d2 ∧ Here P L n f3.type c3 d3 := by
  unfold Here at h; rw [ht] at h
  obtain ⟨l, rfl, rfl, hl, hall⟩ := h
  match l, hl with
  | [x0, x1, x2, x3], _ =>
    refine ⟨x0.1, x0.2, x1.1, x1.2, x2.1, x2.2, x3.1, x3.2, by simp, fun hz => ⟨fun m hm => hz m ?_, fun m hm => hz m ?_, fun m hm => hz m ?_, fun m hm => hz m ?_⟩, hall 0 _ _ rfl rfl, hall 1 _ _ rfl rfl, hall 2 _ _ rfl rfl, hall 3 _ _ rfl rfl⟩ <;> simp [DataW.weights, DataW.weightsEach, ht, hm]
/-- A list of texts. -/
theorem Here.texts (ht : P.underlying t = some (.slice e)) (he : P.underlying e = some .string) (hc : P.cellsOf e = 1) (hb : P.bytesOf e = 16) (h : Here P L (n + 2) t cs d) :
    ∃ (v : Value) (ws : List (List UInt8)), cs = [v] ∧ RO 1 L v ws.length (strs ws) ∧ (Small P t d → ws.length * 16 ≤ reachBytes ∧ ∀ w, w ∈ ws → w.length ≤ reachBytes) := by
  obtain ⟨v, l, rfl, hr, hz, hall⟩ := Here.list ht h
  obtain ⟨ws, hws⟩ := Two.pick (R := fun (x : List Value × DataW H) (s : List UInt8) => x ∈ l ∧ x.1 = [str s] ∧ (Small P e x.2 → s.length ≤ reachBytes)) l fun x hx => by
    obtain ⟨s, h1, h2⟩ := Here.text he (hall x hx).2
    exact ⟨s, hx, h1, h2⟩
  have hlen := hws.len
  have hcs : l.flatMap Prod.fst = strs ws := by
    have key : ∀ {l0 : List (List Value × DataW H)} {ws : List (List UInt8)}, Two (fun (x : List Value × DataW H) (s : List UInt8) => x ∈ l ∧ x.1 = [str s] ∧ (Small P e x.2 → s.length ≤ reachBytes)) l0 ws → l0.flatMap Prod.fst = strs ws := fun h => by
      induction h with
      | nil => rfl
      | cons h _ ih => rw [List.flatMap_cons, ih, h.2.1]; rfl
    exact key hws
  rw [hcs, hc] at hr
  refine ⟨v, ws, rfl, by rw [hlen]; exact hr, fun hs => ?_⟩
  obtain ⟨h1, h2⟩ := hz hs
  rw [hb] at h1
  refine ⟨by rw [hlen]; exact h1, fun w hw => ?_⟩
  obtain ⟨x, hx, _, _, h3⟩ := hws.back w hw
  exact h3 (h2 x hx)
end
section
variable {H : Type} {enc : TypeId × Value → H} {P : Program} {W : World} {r : Reach} {b0 n : Nat} {ρ : Env} {h0 : AW} {L : RL} {t : TypeId} {v : Value} {d : DataW H} {p : List MemPlace}
theorem enter_struct {fs : Array Field} (ht : P.underlying t = some (.struct fs)) (ty : tyOk P n t = true) (hv : Value.okWide P W r b0 t v) (h : DataW.Trod enc P W 0 (fun _ => true) true t v d p) (hb : 0 < W.heap.size) (E : Ent P W ρ h0 L) :
    ∃ (us : List Value) (ρ' : Env) (h' : AW) (L' : RL), ρ.le ρ' ∧ VRel ρ' (.agg ⟨us⟩) v ∧ Ent P W ρ' h' L' ∧ Here P L' n t us d ∧ ∀ p, p ∈ L → p ∈ L' := by
  simp only [Value.okWide, ht] at hv
  obtain ⟨cs, rfl, _⟩ := hv
  obtain ⟨fuel, hf⟩ := h
  obtain ⟨us, ρ', h', L', le, lr, E', he, sb⟩ := enter_any 0 hb n fuel t cs.toList (d, p) ρ h0 L ty hf E
  exact ⟨us, ρ', h', L', le, .agg lr, E', he, sb⟩
theorem enter_list {e : TypeId} (ht : P.underlying t = some (.slice e)) (ty : tyOk P n t = true) (hv : Value.okWide P W r b0 t v) (h : DataW.Trod enc P W 0 (fun _ => true) true t v d p) (hb : 0 < W.heap.size) (E : Ent P W ρ h0 L) :
    ∃ (u : Value) (ρ' : Env) (h' : AW) (L' : RL), ρ.le ρ' ∧ VRel ρ' u v ∧ Ent P W ρ' h' L' ∧ Here P L' n t [u] d ∧ ∀ p, p ∈ L → p ∈ L' := by
  obtain ⟨A, m, c, rfl⟩ := okWide_slice ht hv
  obtain ⟨fuel, hf⟩ := h
  obtain ⟨us, ρ', h', L', le, lr, E', he, sb⟩ := enter_any 0 hb n fuel t [.slice A m c] (d, p) ρ h0 L ty (by simpa [Value.cells] using hf) E
  cases lr with
  | cons hv hs =>
    cases hs
    exact ⟨_, ρ', h', L', le, hv, E', he, sb⟩
end
section
variable {H : Type} {enc : TypeId × Value → H}
theorem shaped_size {P : Program} {w : World} (h : w.ShapedOpen P) (hb : P.globals.size < (begin P (fun _ _ => 0) default).world.heap.size) : P.globals.size < w.heap.size := by
  obtain ⟨o, _, ho, _⟩ := h.2 _ (Nat.le_refl _) hb
  rcases Nat.lt_or_ge P.globals.size w.heap.size with h | h
  · exact h
  · rw [Array.getElem?_eq_none h] at ho; cases ho
/-- As the kit's way in, but that the world's shape is handed on. -/
theorem sized_shaped {a : Assume} {C : Checked} {os : Os} {f : FuncId} {fn : Func} {s : ChangeSpec} {conds : List PathCond} {apart fresh handsOn again : Bool}
    (own : ownKnob C.prog.godebug = none) (started : os.Started) (noInit : C.prog.inits.idxOf? f = none) (hfn : C.prog.funcs[f]? = some fn)
    (witness : ∃ (w : World) (tape : Tape) (i : Input), w.os = os ∧ (w.forCall tape i).Shaped C.prog ∧ i.vars = [] ∧ Input.okWide C.prog (w.forCall tape i) .any w.heap.size f i ∧
      s.pre6 enc C.prog fn conds apart (w.forCall tape i).memory i.args ∧ a.holds C.prog (lone (Frame.enter C.prog f i.args .normal) [] (w.forCall tape i)))
    (contract : ∀ (W : World) (base : Nat) (args : Array Value) (ds gs : List (DataW H)) (before : List MemPlace), W.ShapedOpen C.prog →
      (∀ (j : Nat) t v, fn.params[j]? = some t → args[j]? = some v → Value.okWide C.prog W .any base t v) →
      DataW.Whole enc C.prog fn.params.toList s.vars apart W args.toList ds gs before →
      (DataW.weightsEach C.prog (fn.params.toList ++ s.plain.varTypes C.prog) (ds ++ gs)).all (· ≤ reachBytes) = true →
      Calls C.prog f args W fun e W' => ∃ v, e = .returned v ∧ s.post enc C.prog fn apart fresh handsOn again W args v W') :
    ReturnsInHanded a C os f .any (s.pre6 enc C.prog fn conds apart) (s.post enc C.prog fn apart fresh handsOn again) := by
  refine returnsInHanded_of_calls own started noInit witness ?_
  intro w tape i _ hsh _ hok hpre hholds
  obtain ⟨_, _, _, fn', hfn', _, _, _, _, hval⟩ := hok
  obtain rfl : fn' = fn := Option.some.inj (hfn'.symm.trans hfn)
  obtain ⟨⟨ds, gs, before, hw, hc⟩, hz⟩ := hpre
  have hw' := DataW.Whole.of_heap (w' := w.forCall tape i) (by rfl) hw
  refine (contract (w.forCall tape i) w.heap.size i.args ds gs before hsh hval hw' (hz.weights hw)).mono fun e W' ⟨v, he, hp⟩ => ?_
  subst he
  exact ChangeSpec.post_blind hp
theorem cond_shaped {a : Assume} {C : Checked} {os : Os} {f : FuncId} {fn : Func} {s : OpenSpec} {k : (H : Type) → List (DataW H) → Bool} (hk : s.cond = some k) {F : Stop.Interp} {conds : List PathCond} {apart fresh handsOn again : Bool}
    (own : ownKnob C.prog.godebug = none) (started : os.Started) (noInit : C.prog.inits.idxOf? f = none) (hfn : C.prog.funcs[f]? = some fn)
    (witness : ∃ (w : World) (tape : Tape) (i : Input), w.os = os ∧ (w.forCall tape i).Shaped C.prog ∧ i.vars = [] ∧ Input.okWide C.prog (w.forCall tape i) .any w.heap.size f i ∧
      s.pre6 enc C.prog fn conds apart (w.forCall tape i).memory i.args ∧ a.holds C.prog (lone (Frame.enter C.prog f i.args .normal) [] (w.forCall tape i)))
    (contract : ∀ (W : World) (base : Nat) (args : Array Value) (ds gs : List (DataW H)) (before : List MemPlace), W.ShapedOpen C.prog →
      (∀ (j : Nat) t v, fn.params[j]? = some t → args[j]? = some v → Value.okWide C.prog W .any base t v) →
      DataW.Whole enc C.prog fn.params.toList s.vars apart W args.toList ds gs before → k H (ds ++ gs) = true →
      Calls C.prog f args W fun e W' => ∃ v, e = .returned v ∧ (s.at F).post enc C.prog fn apart fresh handsOn again W args v W') :
    ReturnsInHanded a C os f .any (s.pre6 enc C.prog fn conds apart) ((s.at F).post enc C.prog fn apart fresh handsOn again) := by
  refine returnsInHanded_of_calls own started noInit witness ?_
  intro w tape i _ hsh _ hok hpre hholds
  obtain ⟨_, _, _, fn', hfn', _, _, _, _, hval⟩ := hok
  obtain rfl : fn' = fn := Option.some.inj (hfn'.symm.trans hfn)
  obtain ⟨ds, gs, before, hw, hc, hkk⟩ := (OpenSpec.pre_some hk conds apart _ _).1 hpre.1
  have hw' := DataW.Whole.of_heap (w' := w.forCall tape i) (by rfl) hw
  refine (contract (w.forCall tape i) w.heap.size i.args ds gs before hsh hval hw' hkk).mono fun e W' ⟨v, he, hp⟩ => ?_
  subst he
  exact ChangeSpec.post_blind hp
end
end Go.Am
namespace Go.Proofs.Ytllcbjaajffaeaa
open Go.Am
set_option linter.unusedVariables false
set_option linter.unusedSimpArgs false
set_option maxRecDepth 20000
theorem reach_is : Go.reachBytes = 140737488351232 := rfl
theorem hpos {W : World} (h : W.ShapedOpen Try.prog) : 0 < W.heap.size := Nat.lt_of_le_of_lt (Nat.zero_le _) (Am.shaped_size h (of_decide_eq_true (by kernel_rfl)))
theorem ty_axes : tyOk Try.prog 6 31 = true := by kernel_rfl
theorem ty_strs : tyOk Try.prog 3 32 = true := by kernel_rfl
def AxW (l : List Mx.Ax) : Prop := l.length * 40 ≤ 140737488351232 ∧ ∀ x, x ∈ l → x.1.length ≤ 140737488351232 ∧ x.2.length * 16 ≤ 140737488351232 ∧ ∀ w, w ∈ x.2 → w.length ≤ 140737488351232
section
variable {H : Type} {L : RL} {n : Nat} {cs : List Value} {d : DataW H}
theorem here_axes (h : Here Try.prog L (n + 5) 31 cs d) : ∃ v l ics, cs = [v] ∧ SV 2 L v l.length ics ∧ AxR L l ics ∧ (Small Try.prog 31 d → AxW l) := by
  obtain ⟨v, l, rfl, hr, hz, hall⟩ := Here.list Try.underlying31 h
  obtain ⟨its, hits⟩ := Two.pick (R := fun (x : List Value × DataW H) (it : Mx.Ax) => x ∈ l ∧ ∃ a, x.1 = [str it.1, a] ∧ SV 1 L a it.2.length (strs it.2) ∧ (Small Try.prog 55 x.2 → it.1.length ≤ 140737488351232 ∧ it.2.length * 16 ≤ 140737488351232 ∧ ∀ a, a ∈ it.2 → a.length ≤ 140737488351232)) l fun x hx => by
    obtain ⟨c0, d0, c1, d1, hcs, hs, h0, h1⟩ := Here.two Try.underlying55 (hall x hx).2
    obtain ⟨s, rfl, hs1⟩ := Here.text Try.underlying9 h0
    obtain ⟨a, ws, rfl, hra, hs2⟩ := Here.texts Try.underlying32 Try.underlying9 (by kernel_rfl) (by kernel_rfl) h1
    refine ⟨(s, ws), hx, a, by rw [hcs]; rfl, hra.sv, fun hsm => ?_⟩
    obtain ⟨q0, q1⟩ := hs hsm
    have e1 := hs1 q0
    have e2 := hs2 q1
    rw [reach_is] at e1 e2
    exact ⟨e1, e2⟩
  have hlen := hits.len
  have hcs : AxR L its (l.flatMap Prod.fst) := by
    have key : ∀ {l0 : List (List Value × DataW H)} {its : List Mx.Ax}, Two (fun (x : List Value × DataW H) (it : Mx.Ax) => x ∈ l ∧ ∃ a, x.1 = [str it.1, a] ∧ SV 1 L a it.2.length (strs it.2) ∧ (Small Try.prog 55 x.2 → it.1.length ≤ 140737488351232 ∧ it.2.length * 16 ≤ 140737488351232 ∧ ∀ a, a ∈ it.2 → a.length ≤ 140737488351232)) l0 its → AxR L its (l0.flatMap Prod.fst) := fun h => by
      induction h with
      | nil => rfl
      | cons h _ ih =>
        obtain ⟨_, a, e1, e2, _⟩ := h
        exact ⟨a, _, by rw [List.flatMap_cons, e1]; rfl, e2, ih⟩
    exact key hits
  have hc3 : Try.prog.cellsOf 55 = 2 := by kernel_rfl
  have hb3 : Try.prog.bytesOf 55 = 40 := by kernel_rfl
  rw [hc3] at hr
  refine ⟨v, its, _, rfl, by rw [hlen]; exact hr.sv, hcs, fun hsm => ?_⟩
  obtain ⟨q1, q2⟩ := hz hsm
  rw [hb3, reach_is] at q1
  refine ⟨by rw [hlen]; exact q1, fun it hit => ?_⟩
  obtain ⟨x, hx, hxl, a, _, _, hb⟩ := hits.back it hit
  exact hb (q2 x hx)
theorem here_strs (h : Here Try.prog L (n + 2) 32 cs d) : ∃ v ws, cs = [v] ∧ SV 1 L v ws.length (strs ws) ∧ (Small Try.prog 32 d → ws.length * 16 ≤ 140737488351232 ∧ ∀ w, w ∈ ws → w.length ≤ 140737488351232) := by
  obtain ⟨v, ws, rfl, hr, hz⟩ := Here.texts Try.underlying32 Try.underlying9 (by kernel_rfl) (by kernel_rfl) h
  exact ⟨v, ws, rfl, hr.sv, fun hs => by have := hz hs; rw [reach_is] at this; exact this⟩
end
end Go.Proofs.Ytllcbjaajffaeaa
namespace Go.Proofs.Ytllcbjaajffaeaa.U
set_option linter.unusedSimpArgs false
open Go.Am Go.Proofs.Ytllcbjaajffaeaa Go.Proofs.Ytllcbjaajffaeaa.Rows
set_option linter.unusedVariables false
set_option maxRecDepth 20000
theorem one_le {H : Type} (d : DataW H) : 1 ≤ uptoBulk d := by
  cases d with
  | lit l => cases l <;> simp [uptoBulk]
  | _ => simp [uptoBulk]
theorem part_le {H : Type} {d : DataW H} {l : List (DataW H)} (h : d ∈ l) : uptoBulk d ≤ uptoBulkAll l := by
  induction l with
  | nil => cases h
  | cons x r ih =>
    simp only [uptoBulkAll]
    rcases List.mem_cons.1 h with rfl | e
    · omega
    · have := ih e; omega
theorem length_le {H : Type} (l : List (DataW H)) : l.length ≤ uptoBulkAll l := by
  induction l with
  | nil => simp [uptoBulkAll]
  | cons x r ih => have := one_le x; simp only [uptoBulkAll, List.length_cons]; omega
theorem slice_le {H : Type} (es sp : List (DataW H)) : es.length + sp.length + 1 ≤ uptoBulk (.slice es sp) := by
  have h1 := length_le es
  have h2 := length_le sp
  simp only [uptoBulk]; omega
theorem slice_elems {H : Type} (es sp : List (DataW H)) : uptoBulkAll es + 1 ≤ uptoBulk (.slice es sp) := by simp only [uptoBulk]; omega
theorem string_eq {H : Type} (bytes : List UInt8) : uptoBulk (DataW.lit (H := H) (.string bytes)) = bytes.length + 1 := by simp [uptoBulk]
def SmallU {H : Type} (d : DataW H) : Prop := uptoBulk d ≤ 1048576
def AxU (l : List Mx.Ax) : Prop := l.length ≤ 1048576 ∧ ∀ x, x ∈ l → x.1.length ≤ 1048576 ∧ x.2.length ≤ 1048576 ∧ ∀ a, a ∈ x.2 → a.length ≤ 1048576
section
variable {H : Type} {P : Program} {L : RL} {n : Nat} {t e : TypeId} {cs : List Value} {d : DataW H}
theorem utext (ht : P.underlying t = some .string) (h : Here P L (n + 1) t cs d) : ∃ s : List UInt8, cs = [str s] ∧ (SmallU d → s.length ≤ 1048576) := by
  unfold Here at h; rw [ht] at h
  obtain ⟨s, rfl, rfl⟩ := h
  exact ⟨s.data.toList, rfl, fun hz => by
    have := (show uptoBulk (DataW.lit (H := H) (.string s.data.toList)) ≤ 1048576 from hz)
    rw [string_eq] at this; omega⟩
theorem ulist (ht : P.underlying t = some (.slice e)) (h : Here P L (n + 1) t cs d) : ∃ (v : Value) (l : List (List Value × DataW H)), cs = [v] ∧ RO (P.cellsOf e) L v l.length (l.flatMap Prod.fst) ∧ (SmallU d → l.length ≤ 1048576 ∧ ∀ x, x ∈ l → SmallU x.2) ∧ ∀ x, x ∈ l → x.1.length = P.cellsOf e ∧ Here P L n e x.1 x.2 := by
  unfold Here at h; rw [ht] at h
  obtain ⟨v, l, sp, rfl, hr, hd, hall⟩ := h
  refine ⟨v, l, rfl, hr, fun hz => ?_, hall⟩
  rcases hd with rfl | ⟨rfl, rfl⟩
  · have h1 := slice_le (l.map Prod.snd) sp
    have h2 := slice_elems (l.map Prod.snd) sp
    unfold SmallU at hz
    rw [List.length_map] at h1
    refine ⟨by omega, fun x hx => ?_⟩
    have h3 := part_le (List.mem_map_of_mem (f := Prod.snd) hx)
    show uptoBulk x.2 ≤ 1048576
    omega
  · exact ⟨by simp, fun x hx => by cases hx⟩
theorem utwo {f0 f1 : Field} (ht : P.underlying t = some (.struct #[f0, f1])) (h : Here P L (n + 1) t cs d) : ∃ (c0 : List Value) (d0 : DataW H) (c1 : List Value) (d1 : DataW H), cs = c0 ++ (c1 ++ []) ∧ (SmallU d → SmallU d0 ∧ SmallU d1) ∧ Here P L n f0.type c0 d0 ∧ Here P L n f1.type c1 d1 := by
  unfold Here at h; rw [ht] at h
  obtain ⟨l, rfl, rfl, hl, hall⟩ := h
  match l, hl with
  | [x0, x1], _ =>
    refine ⟨x0.1, x0.2, x1.1, x1.2, by simp, fun hz => ?_, hall 0 _ _ rfl rfl, hall 1 _ _ rfl rfl⟩
    unfold SmallU at hz ⊢
    simp [uptoBulk, uptoBulkAll] at hz
    omega
theorem uthree {f0 f1 f2 : Field} (ht : P.underlying t = some (.struct #[f0, f1, f2])) (h : Here P L (n + 1) t cs d) : ∃ (c0 : List Value) (d0 : DataW H) (c1 : List Value) (d1 : DataW H) (c2 : List Value) (d2 : DataW H), cs = c0 ++ (c1 ++ (c2 ++ [])) ∧ (SmallU d → SmallU d0 ∧ SmallU d1 ∧ SmallU d2) ∧ Here P L n f0.type c0 d0 ∧ Here P L n f1.type c1 d1 ∧ Here P L n f2.type c2 d2 := by
  unfold Here at h; rw [ht] at h
  obtain ⟨l, rfl, rfl, hl, hall⟩ := h
  match l, hl with
  | [x0, x1, x2], _ =>
    refine ⟨x0.1, x0.2, x1.1, x1.2, x2.1, x2.2, by simp, fun hz => ?_, hall 0 _ _ rfl rfl, hall 1 _ _ rfl rfl, hall 2 _ _ rfl rfl⟩
    unfold SmallU at hz ⊢
    simp [uptoBulk, uptoBulkAll] at hz
    omega
theorem ufour {f0 f1 f2 f3 : Field} (ht : P.underlying t = some (.struct #[f0, f1, f2, f3])) (h : Here P L (n + 1) t cs d) : ∃ (c0 : List Value) (d0 : DataW H) (c1 : List Value) (d1 : DataW H) (c2 : List Value) (d2 : DataW H) (c3 : List Value) (d3 : DataW H), cs = c0 ++ (c1 ++ (c2 ++ (c3 ++ []))) ∧ (SmallU d → SmallU d0 ∧ SmallU d1 ∧ SmallU d2 ∧ SmallU d3) ∧ Here P L n f0.type c0 d0 ∧ Here P L n f1.type c1 d1 ∧ Here P L n f2.type c2 d2 ∧ Here P L n f3.type c3 d3 := by
  unfold Here at h; rw [ht] at h
  obtain ⟨l, rfl, rfl, hl, hall⟩ := h
  match l, hl with
  | [x0, x1, x2, x3], _ =>
    refine ⟨x0.1, x0.2, x1.1, x1.2, x2.1, x2.2, x3.1, x3.2, by simp, fun hz => ?_, hall 0 _ _ rfl rfl, hall 1 _ _ rfl rfl, hall 2 _ _ rfl rfl, hall 3 _ _ rfl rfl⟩
    unfold SmallU at hz ⊢
    simp [uptoBulk, uptoBulkAll] at hz
    omega
theorem utexts (ht : P.underlying t = some (.slice e)) (he : P.underlying e = some .string) (hc : P.cellsOf e = 1) (hb : P.bytesOf e = 16) (h : Here P L (n + 2) t cs d) :
    ∃ (v : Value) (ws : List (List UInt8)), cs = [v] ∧ RO 1 L v ws.length (strs ws) ∧ (SmallU d → ws.length ≤ 1048576 ∧ ∀ w, w ∈ ws → w.length ≤ 1048576) := by
  obtain ⟨v, l, rfl, hr, hz, hall⟩ := ulist ht h
  obtain ⟨ws, hws⟩ := Two.pick (R := fun (x : List Value × DataW H) (s : List UInt8) => x ∈ l ∧ x.1 = [str s] ∧ (SmallU x.2 → s.length ≤ 1048576)) l fun x hx => by
    obtain ⟨s, h1, h2⟩ := utext he (hall x hx).2
    exact ⟨s, hx, h1, h2⟩
  have hlen := hws.len
  have hcs : l.flatMap Prod.fst = strs ws := by
    have key : ∀ {l0 : List (List Value × DataW H)} {ws : List (List UInt8)}, Two (fun (x : List Value × DataW H) (s : List UInt8) => x ∈ l ∧ x.1 = [str s] ∧ (SmallU x.2 → s.length ≤ 1048576)) l0 ws → l0.flatMap Prod.fst = strs ws := fun h => by
      induction h with
      | nil => rfl
      | cons h _ ih => rw [List.flatMap_cons, ih, h.2.1]; rfl
    exact key hws
  rw [hcs, hc] at hr
  refine ⟨v, ws, rfl, by rw [hlen]; exact hr, fun hs => ?_⟩
  obtain ⟨h1, h2⟩ := hz hs
  refine ⟨by rw [hlen]; exact h1, fun w hw => ?_⟩
  obtain ⟨x, hx, _, _, h3⟩ := hws.back w hw
  exact h3 (h2 x hx)
end
section
variable {H : Type} {L : RL} {n : Nat} {cs : List Value} {d : DataW H}
theorem here_uaxes (h : Here Try.prog L (n + 5) 31 cs d) : ∃ v l ics, cs = [v] ∧ SV 2 L v l.length ics ∧ AxR L l ics ∧ (SmallU d → AxU l) := by
  obtain ⟨v, l, rfl, hr, hz, hall⟩ := ulist Try.underlying31 h
  obtain ⟨its, hits⟩ := Two.pick (R := fun (x : List Value × DataW H) (it : Mx.Ax) => x ∈ l ∧ ∃ a, x.1 = [str it.1, a] ∧ SV 1 L a it.2.length (strs it.2) ∧ (SmallU x.2 → it.1.length ≤ 1048576 ∧ it.2.length ≤ 1048576 ∧ ∀ a, a ∈ it.2 → a.length ≤ 1048576)) l fun x hx => by
    obtain ⟨c0, d0, c1, d1, hcs, hs, h0, h1⟩ := utwo Try.underlying55 (hall x hx).2
    obtain ⟨s, rfl, hs1⟩ := utext Try.underlying9 h0
    obtain ⟨a, ws, rfl, hra, hs2⟩ := utexts Try.underlying32 Try.underlying9 (by kernel_rfl) (by kernel_rfl) h1
    refine ⟨(s, ws), hx, a, by rw [hcs]; rfl, hra.sv, fun hsm => ?_⟩
    obtain ⟨q0, q1⟩ := hs hsm
    exact ⟨hs1 q0, hs2 q1⟩
  have hlen := hits.len
  have hcs : AxR L its (l.flatMap Prod.fst) := by
    have key : ∀ {l0 : List (List Value × DataW H)} {its : List Mx.Ax}, Two (fun (x : List Value × DataW H) (it : Mx.Ax) => x ∈ l ∧ ∃ a, x.1 = [str it.1, a] ∧ SV 1 L a it.2.length (strs it.2) ∧ (SmallU x.2 → it.1.length ≤ 1048576 ∧ it.2.length ≤ 1048576 ∧ ∀ a, a ∈ it.2 → a.length ≤ 1048576)) l0 its → AxR L its (l0.flatMap Prod.fst) := fun h => by
      induction h with
      | nil => rfl
      | cons h _ ih =>
        obtain ⟨_, a, e1, e2, _⟩ := h
        exact ⟨a, _, by rw [List.flatMap_cons, e1]; rfl, e2, ih⟩
    exact key hits
  have hc3 : Try.prog.cellsOf 55 = 2 := by kernel_rfl
  rw [hc3] at hr
  refine ⟨v, its, _, rfl, by rw [hlen]; exact hr.sv, hcs, fun hsm => ?_⟩
  obtain ⟨q1, q2⟩ := hz hsm
  refine ⟨by rw [hlen]; exact q1, fun it hit => ?_⟩
  obtain ⟨x, hx, hxl, a, _, _, hb⟩ := hits.back it hit
  exact hb (q2 x hx)
theorem here_ustrs (h : Here Try.prog L (n + 2) 32 cs d) : ∃ v ws, cs = [v] ∧ SV 1 L v ws.length (strs ws) ∧ (SmallU d → ws.length ≤ 1048576 ∧ ∀ w, w ∈ ws → w.length ≤ 1048576) := by
  obtain ⟨v, ws, rfl, hr, hz⟩ := utexts Try.underlying32 Try.underlying9 (by kernel_rfl) (by kernel_rfl) h
  exact ⟨v, ws, rfl, hr.sv, hz⟩
end
end Go.Proofs.Ytllcbjaajffaeaa.U
