/- What errors.As asks of the model's own reflection: values, types, their kinds; what is set. -/
import Derived.Test.YtmdcfnnoeimakaaGreatDoorRx
import Derived.Test.YtmdcfnnoeimakaaGreatDoorYl
import Derived.Test.YtmdcfnnoeimakaaGreatDoorWg
import Derived.Test.YtmdcfnnoeimakaaGreatDoorProg
namespace Go.Am
theorem agg1 {ρ : Env} {x u : Value} (h : VRel ρ (.agg #[x]) u) : ∃ a, u = .agg #[a] ∧ VRel ρ x a := by
  cases h with
  | agg h =>
    rename_i b
    obtain ⟨b⟩ := b
    cases h with
    | cons h1 h2 => cases h2; exact ⟨_, rfl, h1⟩
theorem agg2 {ρ : Env} {x y u : Value} (h : VRel ρ (.agg #[x, y]) u) : ∃ a b, u = .agg #[a, b] ∧ VRel ρ x a ∧ VRel ρ y b := by
  cases h with
  | agg h =>
    rename_i b
    obtain ⟨b⟩ := b
    cases h with
    | cons h1 h2 => cases h2 with
      | cons h2 h3 => cases h3; exact ⟨_, _, rfl, h1, h2⟩
theorem agg3 {ρ : Env} {x y z u : Value} (h : VRel ρ (.agg #[x, y, z]) u) : ∃ a b c, u = .agg #[a, b, c] ∧ VRel ρ x a ∧ VRel ρ y b ∧ VRel ρ z c := by
  cases h with
  | agg h =>
    rename_i b
    obtain ⟨b⟩ := b
    cases h with
    | cons h1 h2 => cases h2 with
      | cons h2 h3 => cases h3 with
        | cons h3 h4 => cases h4; exact ⟨_, _, _, rfl, h1, h2, h3⟩
theorem ptr_rel {ρ : Env} {r off : Nat} {u : Value} (h : VRel ρ (.pointer (some ⟨r, off, none⟩)) u) : ∃ l, ρ r = some l ∧ u = .pointer (some ⟨l.block, l.base + off, none⟩) := by
  cases h with
  | ptr h => exact ⟨_, h, rfl⟩
theorem int_rel {ρ : Env} {k : IntKind} {n : Int} {u : Value} (h : VRel ρ (.int k n) u) : u = .int k n := by cases h; rfl
theorem newVar_of {P : Program} {T : TypeId} {u pu : Value} {w w' : World} (h : (Instr.box T u).run P w = .ok pu w') : ∃ a, (newVar T u).run P w = .ok a w' ∧ pu = .pointer (some a) := by
  simp only [Instr.box, Sem.run_bind] at h
  cases hn : (newVar T u).run P w with
  | ok a w1 =>
    rw [hn] at h
    simp at h
    exact ⟨a, by rw [h.2], h.1.symm⟩
  | _ => rw [hn] at h; cases h
theorem rlm (z : Sem Value) (f : TypeId → Addr → Nat → Nat → Sem Value) (v : Value) :
    Extern.ReflectliteValue.method z f #[v] = (do match ← Extern.ReflectliteValue.parts v with | none => z | some (t, a, fl) => f t a fl (fl % 32)) := rfl
theorem rls (v x : Value) : Extern.ReflectliteValue.set #[v, x] = (do
    let (some (dst, a, fl), some (src, b, _)) := (← Extern.ReflectliteValue.parts v, ← Extern.ReflectliteValue.parts x)
      | unsupported (.noEntry "extern/(internal/reflectlite.Value).Set.zeroValue")
    if fl / Extern.ReflectliteValue.flagAddr % 2 == 0 then unsupported (.noEntry "extern/(internal/reflectlite.Value).Set.unaddressable")
    let val ← loadVar src b
    if ← Extern.Rtype.directlyAssignable dst src then storeVar dst a val
    else if ← Extern.Rtype.implements dst src then
      if (← Extern.Rtype.kind src) == 20 then
        match val with
        | .nilIface => unsupported (.noEntry "extern/reflectlite: a nil value of one interface type handed on as a value of another")
        | _ => storeVar dst a val
      else storeVar dst a (.iface src val)
    else panicString ("reflectlite.Set: value of type " ++ (← Extern.Rtype.spelt src) ++ " is not assignable to type " ++ (← Extern.Rtype.spelt dst))
    pure (.tuple #[])) := rfl
end Go.Am
namespace Go.Proofs.YtmdcfnnoeimakaaGreatDoor
open Go.Am Go.Extern
set_option linter.unusedVariables false
set_option maxRecDepth 20000
set_option maxHeartbeats 4000000
noncomputable abbrev DB : Nat := Tryz.prog.globals.size
abbrev RT : Nat := 206
abbrev hd (gd t : Nat) : Value := .pointer (some ⟨gd, t, none⟩)
abbrev tyV (gd t : Nat) : Value := .iface RT (.agg #[hd gd t])
abbrev rv (gd t r k : Nat) : Value := .agg #[hd gd t, ptr r, .int .u64 (k : Nat)]
noncomputable abbrev wh (t : Nat) : Value := .pointer (some ⟨DB, t, none⟩)
section
variable {L : RL} {gd : Nat} (hG : (gd, ARow.glob DB []) ∈ L)
include hG
theorem vOf {T k : Nat} {x : Value} (hj : isJ x = false) (hs : (sizeB Tryz.prog T).isSome = true) (hmk : ∀ a w, (ReflectliteValue.mk T a 0).run Tryz.prog w = .ok (.agg #[wh T, .pointer (some a), .int .u64 (k : Nat)]) w) :
    XS Tryz.prog 79 [.iface T x] L fun v L' => ∃ rn, v = rv gd T rn k ∧ L' = (rn, .cells T x.cells.toList) :: L := by
  intro h H
  refine ⟨_, fun args => ReflectliteValue.unpack (args.getD 0 (.tuple #[])), rfl, by kernel_rfl, by kernel_rfl, by kernel_rfl, by kernel_rfl, fun ρ us w hus HR => ?_⟩
  cases hus with
  | cons h1 h2 =>
    cases h2
    cases h1 with
    | iface hx =>
      rename_i u
      obtain ⟨h₁, e₁⟩ := h.new_some (.cells T x.cells.toList)
      have en : newCells Tryz.prog h T x.cells.toList = some (h.next, h₁) := by
        unfold newCells
        cases hz : sizeB Tryz.prog T with
        | none => rw [hz] at hs; cases hs
        | some n => exact e₁
      obtain ⟨pu, w', ρ', hrun, hrel, H', T'⟩ := run_box_am HR hx hj en
      obtain ⟨a, hn, rfl⟩ := newVar_of hrun
      have Hh := H.new e₁
      refine ⟨rv gd T h.next k, h₁, ⟨_, ⟨h.next, rfl, rfl⟩, Hh⟩, .agg #[wh T, .pointer (some a), .int .u64 (k : Nat)], w', ρ', ?_, ?_, H', T'⟩
      · show (ReflectliteValue.unpack (.iface T u)).run Tryz.prog w = _
        simp only [ReflectliteValue.unpack, Sem.run_bind, hn, Result.andThen_ok, hmk]
      · exact .agg (.cons (glob_ptr (List.mem_cons_of_mem _ hG) Hh H').1 (.cons hrel (.cons (.int _ _) .nil)))
theorem vType {T k r : Nat} (hc : ∀ a w, (ReflectliteValue.methodAny (ReflectliteValue.valueError "reflectlite.Value.Type" 0) (fun t _ _ _ => ReflectliteType.toType t) #[.agg #[wh T, .pointer (some a), .int .u64 (k : Nat)]]).run Tryz.prog w = .ok (.iface RT (.agg #[wh T])) w) :
    XS Tryz.prog 80 [rv gd T r k] L fun v L' => v = tyV gd T ∧ L' = L := by
  refine XS.still (ex := ReflectliteValue.methodAny (ReflectliteValue.valueError "reflectlite.Value.Type" 0) (fun t _ _ _ => ReflectliteType.toType t)) rfl (by kernel_rfl) (by kernel_rfl) (by kernel_rfl) (by kernel_rfl) fun h H ρ us w hus HR => ?_
  cases hus with
  | cons h1 h2 =>
    cases h2
    obtain ⟨a, b, c, rfl, ha, hb, hcc⟩ := agg3 h1
    obtain rfl := (glob_ptr hG H HR).2 _ ha
    obtain ⟨l, hl, rfl⟩ := ptr_rel hb
    obtain rfl := int_rel hcc
    exact ⟨_, hc _ w, .iface (.agg (.cons (glob_ptr hG H HR).1 .nil))⟩
theorem tKind {T k : Nat} (hc : ∀ w, ((ReflectliteType.abiMethod fun t => (fun a : Nat => Value.int IntKind.u8 (a : Int)) <$> Rtype.kind t) #[wh T]).run Tryz.prog w = .ok (.int .u8 (k : Nat)) w) :
    XS Tryz.prog 181 [hd gd T] L fun v L' => v = .int .u8 (k : Nat) ∧ L' = L := by
  refine XS.still (ex := ReflectliteType.abiMethod fun t => (fun a : Nat => Value.int IntKind.u8 (a : Int)) <$> Rtype.kind t) rfl (by kernel_rfl) (by kernel_rfl) (by kernel_rfl) (by kernel_rfl) fun h H ρ us w hus HR => ?_
  cases hus with
  | cons h1 h2 =>
    cases h2
    obtain rfl := (glob_ptr hG H HR).2 _ h1
    exact ⟨_, hc w, .int _ _⟩
theorem tElem {T E : Nat} (hc : ∀ w, (ReflectliteType.method ReflectliteType.elem #[.agg #[wh T]]).run Tryz.prog w = .ok (.iface RT (.agg #[wh E])) w) :
    XS Tryz.prog 194 [.agg #[hd gd T]] L fun v L' => v = tyV gd E ∧ L' = L := by
  refine XS.still (ex := ReflectliteType.method ReflectliteType.elem) rfl (by kernel_rfl) (by kernel_rfl) (by kernel_rfl) (by kernel_rfl) fun h H ρ us w hus HR => ?_
  cases hus with
  | cons h1 h2 =>
    cases h2
    obtain ⟨a, rfl, ha⟩ := agg1 h1
    obtain rfl := (glob_ptr hG H HR).2 _ ha
    exact ⟨_, hc w, .iface (.agg (.cons (glob_ptr hG H HR).1 .nil))⟩
theorem tImpl {T U : Nat} {b : Bool} (hc : ∀ w, (ReflectliteType.relation "Implements" ReflectliteType.implements_ #[.agg #[wh T], .iface RT (.agg #[wh U])]).run Tryz.prog w = .ok (.bool b) w) :
    XS Tryz.prog 195 [.agg #[hd gd T], tyV gd U] L fun v L' => v = .bool b ∧ L' = L := by
  refine XS.still (ex := ReflectliteType.relation "Implements" ReflectliteType.implements_) rfl (by kernel_rfl) (by kernel_rfl) (by kernel_rfl) (by kernel_rfl) fun h H ρ us w hus HR => ?_
  cases hus with
  | cons h1 h2 =>
    cases h2 with
    | cons h2 h3 =>
    cases h3
    obtain ⟨a, rfl, ha⟩ := agg1 h1
    obtain rfl := (glob_ptr hG H HR).2 _ ha
    cases h2 with
    | iface h2 =>
    obtain ⟨a, rfl, ha⟩ := agg1 h2
    obtain rfl := (glob_ptr hG H HR).2 _ ha
    exact ⟨_, hc w, .bool _⟩
theorem tAssign {T U : Nat} {b : Bool} (hc : ∀ w, (ReflectliteType.relation "AssignableTo" ReflectliteType.assignableTo #[.agg #[wh T], .iface RT (.agg #[wh U])]).run Tryz.prog w = .ok (.bool b) w) :
    XS Tryz.prog 192 [.agg #[hd gd T], tyV gd U] L fun v L' => v = .bool b ∧ L' = L := by
  refine XS.still (ex := ReflectliteType.relation "AssignableTo" ReflectliteType.assignableTo) rfl (by kernel_rfl) (by kernel_rfl) (by kernel_rfl) (by kernel_rfl) fun h H ρ us w hus HR => ?_
  cases hus with
  | cons h1 h2 =>
    cases h2 with
    | cons h2 h3 =>
    cases h3
    obtain ⟨a, rfl, ha⟩ := agg1 h1
    obtain rfl := (glob_ptr hG H HR).2 _ ha
    cases h2 with
    | iface h2 =>
    obtain ⟨a, rfl, ha⟩ := agg1 h2
    obtain rfl := (glob_ptr hG H HR).2 _ ha
    exact ⟨_, hc w, .bool _⟩
theorem tOf {T : Nat} {x : Value} (hc : ∀ u w, (ReflectliteType.typeOf #[.iface T u]).run Tryz.prog w = .ok (.iface RT (.agg #[wh T])) w) :
    XS Tryz.prog 100 [.iface T x] L fun v L' => v = tyV gd T ∧ L' = L := by
  refine XS.still (ex := ReflectliteType.typeOf) rfl (by kernel_rfl) (by kernel_rfl) (by kernel_rfl) (by kernel_rfl) fun h H ρ us w hus HR => ?_
  cases hus with
  | cons h1 h2 =>
    cases h2
    cases h1 with
    | iface h1 => exact ⟨_, hc _ w, .iface (.agg (.cons (glob_ptr hG H HR).1 .nil))⟩
theorem vIsNil {T k r r' : Nat} (hm : (r, ARow.cells T [ptr r']) ∈ L) (hk : ([18, 19, 20, 21, 22, 23, 26].contains (k % 32)) = true) (ht : isAggB Tryz.prog T = some false)
    (hp : ∀ a w, (ReflectliteValue.parts (.agg #[wh T, .pointer (some a), .int .u64 (k : Nat)])).run Tryz.prog w = .ok (some (T, a, k)) w) :
    XS Tryz.prog 81 [rv gd T r k] L fun v L' => v = .bool false ∧ L' = L := by
  refine XS.still (ex := ReflectliteValue.method (ReflectliteValue.valueError "reflectlite.Value.IsNil" 0) ReflectliteValue.isNil) rfl (by kernel_rfl) (by kernel_rfl) (by kernel_rfl) (by kernel_rfl) fun h H ρ us w hus HR => ?_
  cases hus with
  | cons h1 h2 =>
    cases h2
    obtain ⟨a, b, c, rfl, ha, hb, hcc⟩ := agg3 h1
    obtain rfl := (glob_ptr hG H HR).2 _ ha
    obtain ⟨l, hl, rfl⟩ := ptr_rel hb
    obtain rfl := int_rel hcc
    obtain ⟨v', hrun, hv'⟩ := run_loadVar (off := 0) (v := ptr r') (t := T) HR (H.mem hm rfl) hl (part_one ht rfl)
    obtain ⟨l', hl', rfl⟩ := ptr_rel hv'
    refine ⟨.bool false, ?_, .bool _⟩
    rw [rlm]
    simp only [Sem.run_bind, hp, Result.andThen_ok, ReflectliteValue.isNil, hk, Bool.not_true, Bool.false_eq_true, if_false, hrun, Sem.run_pure]
theorem vElem {T E k k' r r' : Nat} (hm : (r, ARow.cells T [ptr r']) ∈ L) (hk : k % 32 = 22) (ht : isAggB Tryz.prog T = some false)
    (hp : ∀ a w, (ReflectliteValue.parts (.agg #[wh T, .pointer (some a), .int .u64 (k : Nat)])).run Tryz.prog w = .ok (some (T, a, k)) w) (he : ∀ w, (Rtype.elem? T).run Tryz.prog w = .ok (some E) w)
    (hmk : ∀ a w, (ReflectliteValue.mk E a ReflectliteValue.flagAddr).run Tryz.prog w = .ok (.agg #[wh E, .pointer (some a), .int .u64 (k' : Nat)]) w) :
    XS Tryz.prog 101 [rv gd T r k] L fun v L' => v = rv gd E r' k' ∧ L' = L := by
  refine XS.still (ex := ReflectliteValue.method (ReflectliteValue.valueError "reflectlite.Value.Elem" 0) ReflectliteValue.elem) rfl (by kernel_rfl) (by kernel_rfl) (by kernel_rfl) (by kernel_rfl) fun h H ρ us w hus HR => ?_
  cases hus with
  | cons h1 h2 =>
    cases h2
    obtain ⟨a, b, c, rfl, ha, hb, hcc⟩ := agg3 h1
    obtain rfl := (glob_ptr hG H HR).2 _ ha
    obtain ⟨l, hl, rfl⟩ := ptr_rel hb
    obtain rfl := int_rel hcc
    obtain ⟨v', hrun, hv'⟩ := run_loadVar (off := 0) (v := ptr r') (t := T) HR (H.mem hm rfl) hl (part_one ht rfl)
    have hv2 := hv'
    obtain ⟨l', hl', rfl⟩ := ptr_rel hv'
    refine ⟨.agg #[wh E, .pointer (some ⟨l'.block, l'.base + 0, none⟩), .int .u64 (k' : Nat)], ?_, .agg (.cons (glob_ptr hG H HR).1 (.cons hv2 (.cons (.int _ _) .nil)))⟩
    rw [rlm]
    simp only [Nat.add_zero] at hrun
    simp only [Sem.run_bind, hp, Result.andThen_ok, ReflectliteValue.elem, hk]
    simp [hrun, he, hmk]
/-- What is set: the variable behind the target has what the value has. -/
theorem vSet {T k k' r r2 i : Nat} {cs cs' : List Value} {x : Value} (hi : L[i]? = some (r, .cells T cs)) (hm : (r2, ARow.cells T cs') ∈ L) (hx : partB Tryz.prog T cs' 0 = some x) (hxc : x.cells.toList = cs') (hxl : cs'.length = cs.length) (hj : isJ x = false) {L₁ : RL} (hset : setL L i (r, .cells T cs') = some L₁)
    (hp : ∀ a w, (ReflectliteValue.parts (.agg #[wh T, .pointer (some a), .int .u64 (k : Nat)])).run Tryz.prog w = .ok (some (T, a, k)) w)
    (hp' : ∀ a w, (ReflectliteValue.parts (.agg #[wh T, .pointer (some a), .int .u64 (k' : Nat)])).run Tryz.prog w = .ok (some (T, a, k')) w)
    (hfl : (k / ReflectliteValue.flagAddr % 2 == 0) = false) (hd : ∀ w, (Rtype.directlyAssignable T T).run Tryz.prog w = .ok true w)
    (hst : ∀ h, Has h L → ∃ h₁, storeB Tryz.prog T (ptr r) x h = some h₁ ∧ Has h₁ L₁) :
    XS Tryz.prog 102 [rv gd T r k, rv gd T r2 k'] L fun v L' => v = .tuple #[] ∧ L' = L₁ := by
  intro h H
  refine ⟨_, ReflectliteValue.set, rfl, by kernel_rfl, by kernel_rfl, by kernel_rfl, by kernel_rfl, fun ρ us w hus HR => ?_⟩
  cases hus with
  | cons h1 h2 =>
  cases h2 with
  | cons h2 h3 =>
    cases h3
    obtain ⟨a, b, c, rfl, ha, hb, hcc⟩ := agg3 h1
    obtain rfl := (glob_ptr hG H HR).2 _ ha
    have hb0 := hb
    obtain ⟨l, hl, rfl⟩ := ptr_rel hb
    obtain rfl := int_rel hcc
    obtain ⟨a, b, c, rfl, ha, hb, hcc⟩ := agg3 h2
    obtain rfl := (glob_ptr hG H HR).2 _ ha
    obtain ⟨l2, hl2, rfl⟩ := ptr_rel hb
    obtain rfl := int_rel hcc
    obtain ⟨v', hrun, hv'⟩ := run_loadVar (off := 0) (v := x) (t := T) HR (H.mem hm rfl) hl2 hx
    obtain ⟨h₁, es, Hh⟩ := hst h H
    obtain ⟨w', hrs, H', T'⟩ := run_store_am es hb0 hv' HR
    refine ⟨.tuple #[], h₁, ⟨L₁, ⟨rfl, rfl⟩, Hh⟩, .tuple #[], w', ρ, ?_, .tuple .nil, H', T'⟩
    have hrs' : (storeVar T ⟨l.block, l.base + 0, none⟩ v').run Tryz.prog w = .ok () w' := by
      simpa [Instr.storeAt, Instr.sureAddr] using hrs
    show (ReflectliteValue.set #[_, _]).run Tryz.prog w = _
    rw [rls]
    simp only [Sem.run_bind, hp, hp', Result.andThen_ok, hfl, Bool.false_eq_true, if_false, hrun, hd, if_true, hrs', Sem.run_pure]
end
end Go.Proofs.YtmdcfnnoeimakaaGreatDoor
