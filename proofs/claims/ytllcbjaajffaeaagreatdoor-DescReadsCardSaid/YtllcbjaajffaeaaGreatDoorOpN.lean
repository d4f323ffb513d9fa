import Derived.Test.YtllcbjaajffaeaaGreatDoorOpM
import Derived.Test.YtllcbjaajffaeaaGreatDoorWg
import Derived.Test.YtllcbjaajffaeaaGreatDoorQf
import Derived.Test.YtllcbjaajffaeaaGreatDoorRtM
import Derived.Handed
import Derived.LaidHandle
import Derived.LaidMore
import Derived.Test.YtllcbjaajffaeaaGreatDoorRows
import Derived.LaidLaws
import Derived.Lib.LaidU8
namespace Go.Am
open Go.ChangeShapes Go.WideShapes Go.ChangeAt Go.RowKit Go.Proofs.YtllcbjaajffaeaaGreatDoor
set_option linter.unusedVariables false
section
variable {H : Type} {P : Program} {L : RL} {n : Nat} {t e : TypeId} {cs : List Value} {d : DataW H}
end
end Go.Am
namespace Go.Am
open Go.ChangeShapes Go.WideShapes Go.ChangeAt Go.RowKit Go.Proofs.YtllcbjaajffaeaaGreatDoor
set_option linter.unusedVariables false
section
variable {H : Type} {enc : TypeId × Value → H} {P : Program} {W : World} {r : Reach} {b0 n : Nat} {ρ : Env} {h0 : AW} {L : RL} {t : TypeId} {v : Value} {d : DataW H} {p : List MemPlace}
end
end Go.Am
namespace Go.Proofs.YtllcbjaajffaeaaGreatDoor
open Go.Am Go.Pd
set_option linter.unusedVariables false
set_option maxRecDepth 20000
section
variable {H : Type} {L : RL} {n : Nat} {cs : List Value} {d : DataW H}
end
end Go.Proofs.YtllcbjaajffaeaaGreatDoor
namespace Go.Am
variable {P : Program} {ρ : Env} {h : AW} {w : World} {L : RL}
theorem enterG (HR : HRel P ρ h w) (ro : ∀ r row, h.get r = some row → row.own = false) (H : Has h L) (g : Nat) (cs : List Value) (hb : g < w.heap.size) (hc : cs ≠ [] → ∃ e f, w.heap[g]? = some (.cells ⟨cs⟩ e f)) :
    ∃ r ρ' h', ρ.le ρ' ∧ HRel P ρ' h' w ∧ (∀ r row, h'.get r = some row → row.own = false) ∧ Has h' ((r, .glob g cs) :: L) := by
  obtain ⟨h', e⟩ := h.new_some (.glob g cs)
  obtain ⟨_, hg, hn, hs⟩ := new_eq e
  have hnone : ρ h.next = none := HR.fresh0
  have le := upd_le (l := { block := g, base := 0, ext := 0, esz := 0 }) hnone
  have ro' : ∀ r row, h'.get r = some row → row.own = false := fun r row hr => by
    rw [hg] at hr
    split at hr
    · simp at hr; subst hr; rfl
    · exact ro r row hr
  refine ⟨h.next, upd ρ h.next { block := g, base := 0, ext := 0, esz := 0 }, h', le, ⟨fun r row hr => ?_, fun r r' row row' l₁ l₂ h1 h2 _ _ _ ho => ?_, fresh_upd HR rfl hn hs, by rw [hs]; exact HR.step⟩, ro', H.new e⟩
  · rw [hg] at hr
    split at hr
    · simp at hr; subst hr; subst_vars
      exact ⟨{ block := g, base := 0, ext := 0, esz := 0 }, by simp [upd], ⟨rfl, rfl⟩, hb, hc⟩
    · obtain ⟨l', hl', hr'⟩ := HR.loc r row hr
      exact ⟨l', le _ _ hl', hr'.keep le rfl⟩
  · rw [ro' r row h1, ro' r' row' h2] at ho; simp at ho
end Go.Am
namespace Go.Am
section
variable {H : Type} {enc : TypeId × Value → H}
theorem handed_shaped {a : Assume} {C : Checked} {os : Os} {f : FuncId} {fn : Func} {s : ChangeSpec} {conds : List PathCond} {apart fresh handsOn again : Bool} {X : World → Prop} (hX : ∀ w w' : World, w.heap = w'.heap → X w → X w')
    (own : ownKnob C.prog.godebug = none) (started : os.Started) (noInit : C.prog.inits.idxOf? f = none) (hfn : C.prog.funcs[f]? = some fn)
    (witness : ∃ (w : World) (tape : Tape) (i : Input), w.os = os ∧ (w.forCall tape i).Shaped C.prog ∧ i.vars = [] ∧ Input.okWide C.prog (w.forCall tape i) .any w.heap.size f i ∧
      ((s.pre enc C.prog fn conds apart (w.forCall tape i).memory i.args ∧ X (w.forCall tape i).memory) ∧ sizedMet enc C.prog fn (OpenSpec.ofChange s) apart (w.forCall tape i).memory i.args) ∧ a.holds C.prog (lone (Frame.enter C.prog f i.args .normal) [] (w.forCall tape i)))
    (contract : ∀ (W : World) (base : Nat) (args : Array Value) (ds gs : List (DataW H)) (before : List MemPlace), W.ShapedOpen C.prog →
      (∀ (j : Nat) t v, fn.params[j]? = some t → args[j]? = some v → Value.okWide C.prog W .any base t v) → DataW.Whole enc C.prog fn.params.toList s.vars apart W args.toList ds gs before →
      conds.all (PathCond.test C.prog ⟨fn.params.toList, ds, s.plain.varTypes C.prog, gs⟩) = true → (DataW.weightsEach C.prog (fn.params.toList ++ s.plain.varTypes C.prog) (ds ++ gs)).all (· ≤ reachBytes) = true → X W →
      a.holds C.prog (lone (Frame.enter C.prog f args .normal) [] W) → Calls C.prog f args W fun e W' => ∃ v, e = .returned v ∧ s.post enc C.prog fn apart fresh handsOn again W args v W') :
    ReturnsInHanded a C os f .any (fun w args => (s.pre enc C.prog fn conds apart w args ∧ X w) ∧ sizedMet enc C.prog fn (OpenSpec.ofChange s) apart w args) (s.post enc C.prog fn apart fresh handsOn again) := by
  refine returnsInHanded_of_calls own started noInit witness ?_
  intro w tape i _ hsh _ hok hpre hholds
  obtain ⟨_, _, _, fn', hfn', _, _, _, _, hval⟩ := hok
  obtain rfl : fn' = fn := Option.some.inj (hfn'.symm.trans hfn)
  obtain ⟨⟨⟨ds, gs, before, hw, hc⟩, hx⟩, hz⟩ := hpre
  have hw' := DataW.Whole.of_heap (w' := w.forCall tape i) (by rfl) hw
  refine (contract (w.forCall tape i) w.heap.size i.args ds gs before hsh hval hw' hc (hz.weights hw) (hX _ _ (by rfl) hx) hholds).mono fun e W' ⟨v, he, hp⟩ => ?_
  subst he
  exact ChangeSpec.post_blind hp
theorem shaped_size {P : Program} {w : World} (h : w.ShapedOpen P) (hb : P.globals.size < (begin P (fun _ _ => 0) default).world.heap.size) : P.globals.size < w.heap.size := by
  obtain ⟨o, _, ho, _⟩ := h.2 _ (Nat.le_refl _) hb
  rcases Nat.lt_or_ge P.globals.size w.heap.size with h | h
  · exact h
  · rw [Array.getElem?_eq_none h] at ho; cases ho
theorem var_glob {P : Program} {w : World} {n : String} {g : Nat} {cs : Array Value} (hn : P.globalNamed n = some g) (h : w.var? P n = some cs) : g < w.heap.size ∧ ∃ e f, w.heap[g]? = some (.cells cs e f) := by
  unfold World.var? at h
  rw [hn] at h
  simp only [Option.bind_some] at h
  split at h
  · rename_i c e f hg
    simp at h; subst h
    refine ⟨?_, e, f, hg⟩
    rcases Nat.lt_or_ge g w.heap.size with h | h
    · exact h
    · rw [Array.getElem?_eq_none h] at hg; cases hg
  · cases h
end
end Go.Am
namespace Go.Proofs.YtllcbjaajffaeaaGreatDoor
open Go.Am
set_option linter.unusedVariables false
set_option maxRecDepth 20000
abbrev LD : List (String × DataW Unit) := Rows.descReadsRow.laid
theorem rt_is : (Tryz.prog.cutTypes.find? (·.1 == "internal/reflectlite.rtype")).map (·.2) = some RT := by kernel_rfl
theorem row_is : ((List.range Tryz.prog.types.size).filter fun t => Tryz.prog.rowNamed t [101, 114, 114, 111, 114]) = [90] := by kernel_rfl
theorem et_is : Tryz.prog.globalNamed "errors.errorType" = some 0 := by kernel_rfl
theorem es_is : Tryz.prog.globalNamed "strconv.ErrSyntax" = some 4 := by kernel_rfl
theorem er_is : Tryz.prog.globalNamed "strconv.ErrRange" = some 5 := by kernel_rfl
theorem pw_is : Tryz.prog.globalNamed "internal/strconv.uint64pow10" = some 6 := by kernel_rfl
theorem errorType_of {W : World} (h : laidMetH Tryz.prog LD W) : W.var? Tryz.prog "errors.errorType" = some #[.iface RT (.agg #[wh 90])] := by
  have h' : laidMet Tryz.prog (LD.filter fun x => x.2.handleName?.isNone) W ∧ handlesMet Tryz.prog [("errors.errorType", Rows.laid_errors_errorType)] W := h
  obtain ⟨name, u, ty, e1, e2, e3, e4, e5⟩ := h'.2 _ (List.mem_singleton.2 rfl)
  have en : name = [101, 114, 114, 111, 114] := (Option.some.inj e1).symm
  subst en
  obtain rfl := Option.some.inj (rt_is.symm.trans e2)
  have hm : ty ∈ (List.range Tryz.prog.types.size).filter fun t => Tryz.prog.rowNamed t [101, 114, 114, 111, 114] := List.mem_filter.2 ⟨List.mem_range.2 e3, e4⟩
  rw [row_is] at hm
  obtain rfl := List.mem_singleton.1 hm
  have hh : typeHandle Tryz.prog 90 = wh 90 := by kernel_rfl
  rw [hh] at e5
  exact e5
theorem sentinel_of {W : World} (h : laidMetH Tryz.prog LD W) {n : String} {nm : String} {d : DataW Unit} {g ti : Nat} (hm : (n, DataW.iface nm d) ∈ LD.filter fun x => x.2.handleName?.isNone) (hg : Tryz.prog.globalNamed n = some g) (ht : (Tryz.prog.globals[g]?).map (·.type) = some ti) (hi : (match Tryz.prog.underlying ti with | some (.interface _) => true | _ => false) = true) :
    ∃ t x, W.var? Tryz.prog n = some #[.iface t x] := by
  have h' : laidMet Tryz.prog (LD.filter fun x => x.2.handleName?.isNone) W ∧ handlesMet Tryz.prog [("errors.errorType", Rows.laid_errors_errorType)] W := h
  obtain ⟨g', t', cs, fuel, p, h1, h2, h3, h4⟩ := Go.Lib.laidMet.reads h'.1 hm
  obtain rfl := Option.some.inj (hg.symm.trans h1)
  obtain rfl := Option.some.inj (ht.symm.trans h2)
  obtain ⟨ms, hi⟩ : ∃ ms, Tryz.prog.underlying ti = some (.interface ms) := by
    split at hi
    · rename_i ms h; exact ⟨ms, h⟩
    · cases hi
  obtain ⟨_, u, v, hc, _⟩ := iface_of_trod hi h4
  refine ⟨u, v, ?_⟩
  rw [h3]
  cases cs with | mk l => simp at hc; rw [hc]
theorem pow10_of {W : World} (h : laidMetH Tryz.prog LD W) : W.var? Tryz.prog "internal/strconv.uint64pow10" = some pow10V.toArray := by
  have h' : laidMet Tryz.prog (LD.filter fun x => x.2.handleName?.isNone) W ∧ handlesMet Tryz.prog [("errors.errorType", Rows.laid_errors_errorType)] W := h
  have hm : ("internal/strconv.uint64pow10", (Go.Lib.tabData .u64 Go.Lib.pow10Tab : DataW Unit)) ∈ LD.filter fun x => x.2.handleName?.isNone := by
    rw [show LD.filter (fun x => x.2.handleName?.isNone) = [_, _, _, _, _, _, _] from rfl]
    exact .tail _ (.tail _ (.head _))
  obtain ⟨g', t', cs, fuel, p, h1, h2, h3, h4⟩ := Go.Lib.laidMet.reads h'.1 hm
  obtain rfl := Option.some.inj (pw_is.symm.trans h1)
  obtain rfl := Option.some.inj ((show (Tryz.prog.globals[6]?).map (·.type) = some 364 by kernel_rfl).symm.trans h2)
  have := Go.Lib.cells_of_tab (t := 364) (e := 347) (n := 20) (by kernel_rfl) (by kernel_rfl) (by kernel_rfl) (by kernel_rfl) h4
  rw [h3]
  cases cs with | mk l => simp at this; rw [this]; rfl
theorem gl_entry {W : World} (h : laidMetH Tryz.prog LD W) (hD : Tryz.prog.globals.size < W.heap.size) : ∃ g ρ h L, HRel Tryz.prog ρ h W ∧ (∀ r row, h.get r = some row → row.own = false) ∧ Has h L ∧ GL g L := by
  obtain ⟨t1, x1, hs⟩ := sentinel_of h (n := "strconv.ErrSyntax") (d := _) (.tail _ (.tail _ (.tail _ (.tail _ (.tail _ (.head _)))))) es_is (ti := 90) (by kernel_rfl) (by kernel_rfl)
  obtain ⟨t2, x2, hr⟩ := sentinel_of h (n := "strconv.ErrRange") (d := _) (.tail _ (.tail _ (.tail _ (.tail _ (.head _))))) er_is (ti := 90) (by kernel_rfl) (by kernel_rfl)
  obtain ⟨he1, he2⟩ := var_glob et_is (errorType_of h)
  obtain ⟨hs1, hs2⟩ := var_glob es_is hs
  obtain ⟨hr1, hr2⟩ := var_glob er_is hr
  obtain ⟨hp1, hp2⟩ := var_glob pw_is (pow10_of h)
  obtain ⟨H0, ro0, A0⟩ := enter0 (P := Tryz.prog) W
  obtain ⟨gd, ρ1, h1, _, H1, ro1, A1⟩ := enterG H0 ro0 A0 DB [] hD (fun q => absurd rfl q)
  obtain ⟨ge, ρ2, h2, _, H2, ro2, A2⟩ := enterG H1 ro1 A1 0 [.iface RT (.agg #[wh 90])] he1 (fun _ => he2)
  obtain ⟨gs, ρ3, h3, _, H3, ro3, A3⟩ := enterG H2 ro2 A2 4 [.iface t1 x1] hs1 (fun _ => hs2)
  obtain ⟨gr, ρ4, h4, _, H4, ro4, A4⟩ := enterG H3 ro3 A3 5 [.iface t2 x2] hr1 (fun _ => hr2)
  obtain ⟨gp, ρ5, h5, _, H5, ro5, A5⟩ := enterG H4 ro4 A4 6 pow10V hp1 (fun _ => hp2)
  exact ⟨⟨gd, ge, gs, gr, gp, .iface t1 x1, .iface t2 x2⟩, ρ5, h5, _, H5, ro5, A5, by simp, by simp, by simp, by simp, by simp, ⟨t1, x1, rfl⟩, ⟨t2, x2, rfl⟩⟩
end Go.Proofs.YtllcbjaajffaeaaGreatDoor
