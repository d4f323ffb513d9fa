/- errors.As, at the targets and the errors that the descriptions' package hands up. -/
import Derived.Test.YtmdcfnnoeimakaaGreatDoorFRa
import Derived.Shelf.Strconv.AtoiAll
import Derived.Shelf.Strconv.Itoa4
namespace Go.Am
theorem OS.assertI {P : Program} {ops rest : List Oper} {o : Oper} {a a₁ : Slots} {v : Value} {L : RL} {K : Slots → RL → Prop} {x : Operand} {xt t d : TypeId} {y : Value} (hw : wantedB ops o a = true) (ho : o.op = .typeAssert x xt t true) (hx : aev a x = some (.iface d y))
    (e : ∀ (ρ : Env) (u : Value) (w : World), VRel ρ y u → ∃ z, (Instr.typeAssert (.iface d u) xt t true).run P w = .ok z w ∧ VRel ρ v z) (ep : putAt a o.dst v = some a₁) (k : OS P ops rest a₁ L K) : OS P ops (o :: rest) a L K :=
  fun h H => OQ.stay hw (fun c hc => by rw [ho] at hc; cases hc) (fun ρ act w hr HR => by
    have hrr := aev_rel hr hx
    generalize hev : act.eval x = rv at hrr
    cases hrr with
    | iface hy =>
      obtain ⟨z, hz, hv⟩ := e ρ _ w hy
      exact ⟨z, by simp only [execOp, ho, hev]; simp [hz], hv⟩) ep (k h H)
theorem missing_some {want : Array (String × TypeId)} {got : Array Method} {s : String} {r : List String} (h : ((want.toList.filter fun (name, sig) => !got.any fun m => m.name == name && m.sig == sig).map (·.1)) = s :: r) : ∃ m, Instr.missingMethod want got = some m := by
  unfold Instr.missingMethod
  simp only [h]
  generalize hp : List.partition (fun x : String => x.contains '.') (s :: r) = q
  obtain ⟨u, e⟩ := q
  cases e with
  | cons x e => exact ⟨_, rfl⟩
  | nil =>
    cases u with
    | cons x u => exact ⟨_, rfl⟩
    | nil =>
      rw [List.partition_eq_filter_filter] at hp
      simp only [Prod.mk.injEq] at hp
      have key : ∀ f : String → Bool, (s :: r).filter f = [] → (s :: r).filter (not ∘ f) = [] → False := fun f a b => by
        by_cases hs : f s = true
        · rw [List.filter_cons_of_pos hs] at a; cases a
        · rw [List.filter_cons_of_pos (by simpa using hs)] at b; cases b
      exact (key _ hp.1 hp.2).elim
/-- Of no such interface. -/
theorem assertI_no {P : Program} {t d xt : TypeId} {want : Array (String × TypeId)} {i : TypeInfo} {s : String} {r : List String} {z u : Value} (hu : P.underlying t = some (.interface want)) (hi : P.info? d = some i)
    (hm : ((want.toList.filter fun (name, sig) => !i.methods.any fun m => m.name == name && m.sig == sig).map (·.1)) = s :: r) (hz : zeroVB P t = some z) (w : World) : (Instr.typeAssert (.iface d u) xt t true).run P w = .ok (.tuple #[z, .bool false]) w := by
  obtain ⟨m, hm⟩ := missing_some hm
  obtain ⟨hzr, _⟩ := run_zeroV hz w
  unfold Instr.typeAssert
  simp [run_underlying hu, run_typeInfo hi, hm, hzr]
theorem store_to {P : Program} {L L₁ : RL} (i : Nat) {t : TypeId} {r n : Nat} {e : TypeId} {cs cs' : List Value} {v : Value} (hL : L[i]? = some (r, .cells e cs)) (hn : sizeB P t = some n) (hone : (Nat.beq v.cells.toList.length n && allOne v.cells.toList) = true) (hlay : lay cs 0 v.cells.toList = some cs') (hset : setL L i (r, .cells e cs') = some L₁) :
    ∀ h, Has h L → ∃ h₁, storeB P t (.pointer (some ⟨r, 0, none⟩)) v h = some h₁ ∧ Has h₁ L₁ := by
  intro h H
  obtain ⟨h₁, e₁⟩ := h.put_some r (some (.cells e cs'))
  have := setL_eq hset
  subst this
  exact ⟨h₁, by simp only [storeB, H.row hL, hn, hone, hlay, e₁], H.put hL e₁⟩
end Go.Am
namespace Go.Proofs.YtmdcfnnoeimakaaGreatDoor
open Go.Am Go.Extern
set_option linter.unusedVariables false
set_option maxRecDepth 20000
set_option maxHeartbeats 4000000
attribute [local irreducible] OS LSr ODS CS
/-- Names, and what lies under two of them, of the package variables that are looked at. -/
structure Gn where
  gd : Nat
  ge : Nat
  gs : Nat
  gr : Nat
  gp : Nat
  es : Value
  er : Value
noncomputable def pow10V : List Value := Go.Lib.pow10Tab.map fun z => Value.int .u64 z
structure GL (g : Gn) (L : RL) : Prop where
  d : (g.gd, ARow.glob DB []) ∈ L
  e : (g.ge, ARow.glob 1 [.iface RT (.agg #[wh 108])]) ∈ L
  s : (g.gs, ARow.glob 4 [g.es]) ∈ L
  r : (g.gr, ARow.glob 5 [g.er]) ∈ L
  p : (g.gp, ARow.glob 6 pow10V) ∈ L
  hs : ∃ t x, g.es = .iface t x
  hr : ∃ t x, g.er = .iface t x
theorem GL.mono {g : Gn} {L M : RL} (h : GL g L) (hm : ∀ p, p ∈ L → p ∈ M) : GL g M := ⟨hm _ h.d, hm _ h.e, hm _ h.s, hm _ h.r, hm _ h.p, h.hs, h.hr⟩
abbrev eV (e : Int) : Value := .iface 27 (.int .i64 e)
abbrev fV (no e : Int) : Value := .iface 155 (.agg #[.int .i64 no, eV e])
theorem As_nil {L : RL} {t : Value} : CS Tryz.prog 67 [.nilIface, t] L fun v L' => v = .bool false ∧ L' = L := by
  refine CS.mk (fn := Tryz.f67) rfl rfl rfl rfl ?_
  refine yG ?_
  exact ⟨rfl, rfl⟩
theorem mKind (gd T : Nat) (ρ : Env) (u : Value) (w : World) (h : VRel ρ (.agg #[hd gd T]) u) : ∃ z, (method (Tryz.prog.types.size + Made.depth) RT u "Kind").run Tryz.prog w = .ok (181, z) w ∧ VRel ρ (hd gd T) z := by
  obtain ⟨a, rfl, ha⟩ := agg1 h
  exact ⟨a, by kernel_rfl, ha⟩
theorem mElem (gd T : Nat) (ρ : Env) (u : Value) (w : World) (h : VRel ρ (.agg #[hd gd T]) u) : ∃ z, (method (Tryz.prog.types.size + Made.depth) RT u "Elem").run Tryz.prog w = .ok (194, z) w ∧ VRel ρ (.agg #[hd gd T]) z := by
  obtain ⟨a, rfl, ha⟩ := agg1 h
  exact ⟨_, by kernel_rfl, h⟩
theorem mImpl (gd T : Nat) (ρ : Env) (u : Value) (w : World) (h : VRel ρ (.agg #[hd gd T]) u) : ∃ z, (method (Tryz.prog.types.size + Made.depth) RT u "Implements").run Tryz.prog w = .ok (195, z) w ∧ VRel ρ (.agg #[hd gd T]) z := by
  obtain ⟨a, rfl, ha⟩ := agg1 h
  exact ⟨_, by kernel_rfl, h⟩
theorem mAssign (gd T : Nat) (ρ : Env) (u : Value) (w : World) (h : VRel ρ (.agg #[hd gd T]) u) : ∃ z, (method (Tryz.prog.types.size + Made.depth) RT u "AssignableTo").run Tryz.prog w = .ok (192, z) w ∧ VRel ρ (.agg #[hd gd T]) z := by
  obtain ⟨a, rfl, ha⟩ := agg1 h
  exact ⟨_, by kernel_rfl, h⟩
section
variable {g : Gn} {L : RL}
/-- Up to where the error is looked at. -/
theorem As_ct {T E k k' d rt : Nat} {x : Value} {R : Value → RL → Prop} (hG : GL g L)
    (hs : (sizeB Tryz.prog T).isSome = true) (ht : isAggB Tryz.prog T = some false) (hk : ([18, 19, 20, 21, 22, 23, 26].contains (k % 32)) = true) (hne : (!ieqB (k' : Nat) 20) = true)
    (h1 : ∀ a w, (ReflectliteValue.mk T a 0).run Tryz.prog w = .ok (.agg #[wh T, .pointer (some a), .int .u64 (k : Nat)]) w)
    (h2 : ∀ a w, (ReflectliteValue.methodAny (ReflectliteValue.valueError "reflectlite.Value.Type" 0) (fun t _ _ _ => ReflectliteType.toType t) #[.agg #[wh T, .pointer (some a), .int .u64 (k : Nat)]]).run Tryz.prog w = .ok (.iface RT (.agg #[wh T])) w)
    (h3 : ∀ w, ((ReflectliteType.abiMethod fun t => (fun a : Nat => Value.int IntKind.u8 (a : Int)) <$> Rtype.kind t) #[wh T]).run Tryz.prog w = .ok (.int .u8 (22 : Nat)) w)
    (h4 : ∀ a w, (ReflectliteValue.parts (.agg #[wh T, .pointer (some a), .int .u64 (k : Nat)])).run Tryz.prog w = .ok (some (T, a, k)) w)
    (h5 : ∀ w, (ReflectliteType.method ReflectliteType.elem #[.agg #[wh T]]).run Tryz.prog w = .ok (.iface RT (.agg #[wh E])) w)
    (h6 : ∀ w, ((ReflectliteType.abiMethod fun t => (fun a : Nat => Value.int IntKind.u8 (a : Int)) <$> Rtype.kind t) #[wh E]).run Tryz.prog w = .ok (.int .u8 (k' : Nat)) w)
    (h7 : ∀ w, (ReflectliteType.relation "Implements" ReflectliteType.implements_ #[.agg #[wh E], .iface RT (.agg #[wh 108])]).run Tryz.prog w = .ok (.bool true) w)
    (hc : ∀ rn rl, CS Tryz.prog 82 [.iface d x, .iface T (ptr rt), rv g.gd T rn k, tyV g.gd E] ((rl, .cells 178 [hd g.gd T, ptr rn, .int .u64 (k : Nat)]) :: (rn, .cells T [ptr rt]) :: L) fun v L' => ∃ L₁, R v L₁ ∧ Sub L₁ L') : CS Tryz.prog 67 [.iface d x, .iface T (ptr rt)] L R := by
  refine CS.less (R := fun v L' => ∃ L₁, R v L₁ ∧ Sub L₁ L') ?_ fun v L' ⟨L₁, a, b⟩ => ⟨L₁, b, a⟩
  refine CS.mk (fn := Tryz.f67) rfl rfl rfl rfl ?_
  refine yG ?_
  refine OS.extX rfl (fun _ => rfl) ((vOf hG.d rfl hs h1).mono ?_)
  rintro v L' ⟨rn, rfl, rfl⟩
  refine ⟨_, rfl, ?_⟩
  refine OS.fresh rfl (e_new (fun _ => rfl) rfl) (fun _ => rfl) (fun rl => ?_)
  have hG2 : GL g ((rl, ARow.cells 178 [hd g.gd T, ptr rn, .int .u64 (k : Nat)]) :: (rn, .cells T [ptr rt]) :: L) := hG.mono fun p hp => List.mem_cons_of_mem _ (List.mem_cons_of_mem _ hp)
  refine yG ?_
  refine OS.extX rfl (fun _ => rfl) ((vType hG2.d h2).mono ?_)
  rintro v L' ⟨rfl, rfl⟩
  refine ⟨_, rfl, ?_⟩
  refine yG ?_
  refine OS.invX rfl (fun h => RES.inv (y := hd g.gd T) rfl rfl rfl rfl (mKind g.gd T)) ((tKind hG2.d h3).mono ?_)
  rintro v L' ⟨rfl, rfl⟩
  refine ⟨_, rfl, ?_⟩
  refine yG ?_
  refine OS.extX rfl (fun _ => rfl) ((vIsNil hG2.d (List.mem_cons_of_mem _ (List.mem_cons_self ..)) hk ht h4).mono ?_)
  rintro v L' ⟨rfl, rfl⟩
  refine ⟨_, rfl, ?_⟩
  refine yG ?_
  refine OS.invX rfl (fun h => RES.inv (y := .agg #[hd g.gd T]) rfl rfl rfl rfl (mElem g.gd T)) ((tElem hG2.d h5).mono ?_)
  rintro v L' ⟨rfl, rfl⟩
  refine ⟨_, rfl, ?_⟩
  refine yG ?_
  refine OS.invX rfl (fun h => RES.inv (y := hd g.gd E) rfl rfl rfl rfl (mKind g.gd E)) ((tKind hG2.d h6).mono ?_)
  rintro v L' ⟨rfl, rfl⟩
  refine ⟨_, rfl, ?_⟩
  refine OS.pure rfl (e_is (fun _ => rfl) (congrArg Value.bool hne)) rfl ?_
  refine yG ?_
  refine OS.loadG (v := tyV g.gd 108) rfl rfl hG2.e rfl rfl (fun h H ρ w HR => .iface (.agg (.cons (glob_ptr hG2.d H HR).1 .nil))) rfl ?_
  refine OS.invX rfl (fun h => RES.inv (y := .agg #[hd g.gd E]) rfl rfl rfl rfl (mImpl g.gd E)) ((tImpl hG2.d h7).mono ?_)
  rintro v L' ⟨rfl, rfl⟩
  refine ⟨_, rfl, ?_⟩
  refine yG ?_
  refine OS.call noGo rfl (fun _ => rfl) ((hc rn rl).mono ?_)
  rintro v L' h
  refine ⟨_, rfl, ?_⟩
  refine yG ?_
  exact h
theorem nAs (u : Value) (w : World) {xt : TypeId} : (Instr.typeAssert (.iface 155 u) xt 211 true).run Tryz.prog w = .ok (.tuple #[.nilIface, .bool false]) w := assertI_no (s := "As") (r := []) rfl rfl (by kernel_rfl) rfl w
theorem nAsE (u : Value) (w : World) {xt : TypeId} : (Instr.typeAssert (.iface 27 u) xt 211 true).run Tryz.prog w = .ok (.tuple #[.nilIface, .bool false]) w := assertI_no (s := "As") (r := []) rfl rfl (by kernel_rfl) rfl w
theorem yUn (u : Value) (w : World) {xt : TypeId} : (Instr.typeAssert (.iface 155 u) xt 214 true).run Tryz.prog w = .ok (.tuple #[.iface 155 u, .bool true]) w := by kernel_rfl
theorem nUnE (u : Value) (w : World) {xt : TypeId} : (Instr.typeAssert (.iface 27 u) xt 214 true).run Tryz.prog w = .ok (.tuple #[.nilIface, .bool false]) w := assertI_no (s := "Unwrap") (r := []) rfl rfl (by kernel_rfl) rfl w
theorem nUnsE (u : Value) (w : World) {xt : TypeId} : (Instr.typeAssert (.iface 27 u) xt 216 true).run Tryz.prog w = .ok (.tuple #[.nilIface, .bool false]) w := assertI_no (s := "Unwrap") (r := []) rfl rfl (by kernel_rfl) rfl w
theorem nope (ρ : Env) : VRel ρ (.tuple #[.nilIface, .bool false]) (.tuple #[.nilIface, .bool false]) := .tuple (.cons .nilIface (.cons (.bool _) .nil))
theorem mUnwrap (x : Value) (ρ : Env) (u : Value) (w : World) (h : VRel ρ x u) (hx : ∃ a b, x = .agg #[a, b]) : ∃ z, (method (Tryz.prog.types.size + Made.depth) 155 u "Unwrap").run Tryz.prog w = .ok (187, z) w ∧ VRel ρ x z := by
  obtain ⟨a, b, rfl⟩ := hx
  obtain ⟨c, d, rfl, hc, hd⟩ := agg2 h
  exact ⟨_, by kernel_rfl, h⟩
theorem Unwrap_ct {no e : Int} {L : RL} : CS Tryz.prog 187 [.agg #[.int .i64 no, eV e]] L fun v L' => v = eV e ∧ L' = L := by
  refine CS.less (R := fun v L' => v = eV e ∧ ∃ x, L' = x :: L) ?_ fun v L' ⟨h1, x, h2⟩ => ⟨L, by rw [h2]; exact Sub.tail, h1, rfl⟩
  refine CS.mk (fn := Tryz.f187) rfl rfl rfl rfl ?_
  refine yG ?_
  refine OS.fresh rfl (e_new (fun _ => rfl) rfl) (fun _ => rfl) (fun rb => ?_)
  refine yG ?_
  exact ⟨rfl, _, rfl⟩
abbrev VT : Nat := 178
theorem Sub.drops (k : Nat) {L M : RL} (h : L = M.drop k) : Sub L M := by
  subst h
  refine ⟨M.take k, ?_⟩
  have h := List.perm_append_comm (l₁ := M.take k) (l₂ := M.drop k)
  rw [List.take_append_drop] at h
  exact h
/-- The error is of the type that is looked for: it is told. -/
theorem as_ff {no e : Int} {x y : Value} {rt rn rl : Nat} {F : RL} (hG : GL g F) : CS Tryz.prog 82 [fV no e, .iface 161 (ptr rt), rv g.gd 161 rn 150, tyV g.gd 155]
    ((rl, .cells VT [hd g.gd 161, ptr rn, .int .u64 (150 : Nat)]) :: (rn, .cells 161 [ptr rt]) :: (rt, .cells 155 [x, y]) :: F) fun v L' => ∃ L₁, (v = .bool true ∧ L₁ = (rt, .cells 155 [.int .i64 no, eV e]) :: F) ∧ Sub L₁ L' := by
  refine CS.mk (fn := Tryz.f82) rfl rfl rfl rfl ?_
  refine yG ?_
  refine OS.fresh rfl (e_new (fun _ => rfl) rfl) (fun _ => rfl) (fun rb => ?_)
  refine yG ?_
  have hG3 : GL g ((rb, .cells VT [hd g.gd 161, ptr rn, .int .u64 (150 : Nat)]) :: (rl, .cells VT [hd g.gd 161, ptr rn, .int .u64 (150 : Nat)]) :: (rn, .cells 161 [ptr rt]) :: (rt, .cells 155 [x, y]) :: F) := hG.mono fun p hp => List.mem_cons_of_mem _ (List.mem_cons_of_mem _ (List.mem_cons_of_mem _ (List.mem_cons_of_mem _ hp)))
  refine LS.loopJ [0, 1, 3, 6, 8] (fun q a L' => q = 0 ∧ L' = (rb, .cells VT [hd g.gd 161, ptr rn, .int .u64 (150 : Nat)]) :: (rl, .cells VT [hd g.gd 161, ptr rn, .int .u64 (150 : Nat)]) :: (rn, .cells 161 [ptr rt]) :: (rt, .cells 155 [x, y]) :: F ∧ a = [fV no e, .iface 161 (ptr rt), .chan none, tyV g.gd 155, .chan none, .chan none, ptr rb, .chan none, .bool false, .chan none, .chan none, .chan none, .chan none, .chan none, .chan none, .chan none, .chan none, .chan none, .chan none, .chan none, .chan none, .chan none, .chan none, .chan none, .chan none, .chan none, .chan none, .chan none, .chan none, .chan none, .chan none, .chan none, .chan none, .chan none, .chan none, .chan none, .chan none, .chan none, .chan none, .chan none, .chan none, .chan none, .chan none, .chan none, .chan none, .chan none, .chan none, .chan none, .chan none, .chan none, .chan none, .chan none, .chan none, .chan none, .chan none, .chan none, .chan none, .chan none, .chan none, .chan none, .chan none, .chan none]) (n := 0) rfl ?_ ?_
  · exact ⟨rfl, rfl, rfl⟩
  rintro q a L' ⟨rfl, rfl, rfl⟩
  refine yG ?_
  refine OS.extX rfl (fun _ => rfl) ((tOf (T := 155) hG3.d fun u w => by kernel_rfl).mono ?_)
  rintro v L' ⟨rfl, rfl⟩
  refine ⟨_, rfl, ?_⟩
  refine yG ?_
  refine OS.invX rfl (fun h => RES.inv (y := .agg #[hd g.gd 155]) rfl rfl rfl rfl (mAssign g.gd 155)) ((tAssign (b := true) hG3.d fun w => by kernel_rfl).mono ?_)
  rintro v L' ⟨rfl, rfl⟩
  refine ⟨_, rfl, ?_⟩
  refine yG ?_
  refine OS.extX rfl (fun _ => rfl) ((vElem (E := 155) (k' := 409) hG3.d (List.mem_cons_of_mem _ (List.mem_cons_of_mem _ (List.mem_cons_self ..))) rfl rfl (fun a w => by kernel_rfl) (fun w => by kernel_rfl) (fun a w => by kernel_rfl)).mono ?_)
  rintro v L' ⟨rfl, rfl⟩
  refine ⟨_, rfl, ?_⟩
  refine yG ?_
  refine OS.extX rfl (fun _ => rfl) ((vOf (k := 153) hG3.d rfl rfl fun a w => by kernel_rfl).mono ?_)
  rintro v L' ⟨r2, rfl, rfl⟩
  refine ⟨_, rfl, ?_⟩
  refine OS.extX rfl (fun _ => rfl) ((vSet (i := 4) (hG3.mono fun p hp => List.mem_cons_of_mem _ hp).d rfl (List.mem_cons_self ..) rfl rfl rfl rfl rfl (fun a w => by kernel_rfl) (fun a w => by kernel_rfl) rfl (fun w => by kernel_rfl) (store_to 4 rfl rfl rfl rfl rfl)).mono ?_)
  rintro v L' ⟨rfl, rfl⟩
  refine ⟨_, rfl, ?_⟩
  refine yG ?_
  exact ⟨_, ⟨rfl, rfl⟩, Sub.drops 4 rfl⟩
/-- Likewise. -/
theorem as_ee {no e : Int} {x y : Value} {rt rn rl : Nat} {F : RL} (hG : GL g F) : CS Tryz.prog 82 [eV e, .iface 162 (ptr rt), rv g.gd 162 rn 150, tyV g.gd 27]
    ((rl, .cells VT [hd g.gd 162, ptr rn, .int .u64 (150 : Nat)]) :: (rn, .cells 162 [ptr rt]) :: (rt, .cells 27 [x]) :: F) fun v L' => ∃ L₁, (v = .bool true ∧ L₁ = (rt, .cells 27 [.int .i64 e]) :: F) ∧ Sub L₁ L' := by
  refine CS.mk (fn := Tryz.f82) rfl rfl rfl rfl ?_
  refine yG ?_
  refine OS.fresh rfl (e_new (fun _ => rfl) rfl) (fun _ => rfl) (fun rb => ?_)
  refine yG ?_
  have hG3 : GL g ((rb, .cells VT [hd g.gd 162, ptr rn, .int .u64 (150 : Nat)]) :: (rl, .cells VT [hd g.gd 162, ptr rn, .int .u64 (150 : Nat)]) :: (rn, .cells 162 [ptr rt]) :: (rt, .cells 27 [x]) :: F) := hG.mono fun p hp => List.mem_cons_of_mem _ (List.mem_cons_of_mem _ (List.mem_cons_of_mem _ (List.mem_cons_of_mem _ hp)))
  refine LS.loopJ [0, 1, 3, 6, 8] (fun q a L' => q = 0 ∧ L' = (rb, .cells VT [hd g.gd 162, ptr rn, .int .u64 (150 : Nat)]) :: (rl, .cells VT [hd g.gd 162, ptr rn, .int .u64 (150 : Nat)]) :: (rn, .cells 162 [ptr rt]) :: (rt, .cells 27 [x]) :: F ∧ a = [eV e, .iface 162 (ptr rt), .chan none, tyV g.gd 27, .chan none, .chan none, ptr rb, .chan none, .bool false, .chan none, .chan none, .chan none, .chan none, .chan none, .chan none, .chan none, .chan none, .chan none, .chan none, .chan none, .chan none, .chan none, .chan none, .chan none, .chan none, .chan none, .chan none, .chan none, .chan none, .chan none, .chan none, .chan none, .chan none, .chan none, .chan none, .chan none, .chan none, .chan none, .chan none, .chan none, .chan none, .chan none, .chan none, .chan none, .chan none, .chan none, .chan none, .chan none, .chan none, .chan none, .chan none, .chan none, .chan none, .chan none, .chan none, .chan none, .chan none, .chan none, .chan none, .chan none, .chan none, .chan none]) (n := 0) rfl ?_ ?_
  · exact ⟨rfl, rfl, rfl⟩
  rintro q a L' ⟨rfl, rfl, rfl⟩
  refine yG ?_
  refine OS.extX rfl (fun _ => rfl) ((tOf (T := 27) hG3.d fun u w => by kernel_rfl).mono ?_)
  rintro v L' ⟨rfl, rfl⟩
  refine ⟨_, rfl, ?_⟩
  refine yG ?_
  refine OS.invX rfl (fun h => RES.inv (y := .agg #[hd g.gd 27]) rfl rfl rfl rfl (mAssign g.gd 27)) ((tAssign (b := true) hG3.d fun w => by kernel_rfl).mono ?_)
  rintro v L' ⟨rfl, rfl⟩
  refine ⟨_, rfl, ?_⟩
  refine yG ?_
  refine OS.extX rfl (fun _ => rfl) ((vElem (E := 27) (k' := 386) hG3.d (List.mem_cons_of_mem _ (List.mem_cons_of_mem _ (List.mem_cons_self ..))) rfl rfl (fun a w => by kernel_rfl) (fun w => by kernel_rfl) (fun a w => by kernel_rfl)).mono ?_)
  rintro v L' ⟨rfl, rfl⟩
  refine ⟨_, rfl, ?_⟩
  refine yG ?_
  refine OS.extX rfl (fun _ => rfl) ((vOf (k := 130) hG3.d rfl rfl fun a w => by kernel_rfl).mono ?_)
  rintro v L' ⟨r2, rfl, rfl⟩
  refine ⟨_, rfl, ?_⟩
  refine OS.extX rfl (fun _ => rfl) ((vSet (i := 4) (hG3.mono fun p hp => List.mem_cons_of_mem _ hp).d rfl (List.mem_cons_self ..) rfl rfl rfl rfl rfl (fun a w => by kernel_rfl) (fun a w => by kernel_rfl) rfl (fun w => by kernel_rfl) (store_to 4 rfl rfl rfl rfl rfl)).mono ?_)
  rintro v L' ⟨rfl, rfl⟩
  refine ⟨_, rfl, ?_⟩
  refine yG ?_
  exact ⟨_, ⟨rfl, rfl⟩, Sub.drops 4 rfl⟩
/-- It is not of that type, and bears no other one. -/
theorem as_ef {no e : Int} {x y : Value} {rt rn rl : Nat} {F : RL} (hG : GL g F) : CS Tryz.prog 82 [eV e, .iface 161 (ptr rt), rv g.gd 161 rn 150, tyV g.gd 155]
    ((rl, .cells VT [hd g.gd 161, ptr rn, .int .u64 (150 : Nat)]) :: (rn, .cells 161 [ptr rt]) :: (rt, .cells 155 [x, y]) :: F) fun v L' => ∃ L₁, (v = .bool false ∧ L₁ = (rt, .cells 155 [x, y]) :: F) ∧ Sub L₁ L' := by
  refine CS.mk (fn := Tryz.f82) rfl rfl rfl rfl ?_
  refine yG ?_
  refine OS.fresh rfl (e_new (fun _ => rfl) rfl) (fun _ => rfl) (fun rb => ?_)
  refine yG ?_
  have hG3 : GL g ((rb, .cells VT [hd g.gd 161, ptr rn, .int .u64 (150 : Nat)]) :: (rl, .cells VT [hd g.gd 161, ptr rn, .int .u64 (150 : Nat)]) :: (rn, .cells 161 [ptr rt]) :: (rt, .cells 155 [x, y]) :: F) := hG.mono fun p hp => List.mem_cons_of_mem _ (List.mem_cons_of_mem _ (List.mem_cons_of_mem _ (List.mem_cons_of_mem _ hp)))
  refine LS.loopJ [0, 1, 3, 6, 8] (fun q a L' => q = 0 ∧ L' = (rb, .cells VT [hd g.gd 161, ptr rn, .int .u64 (150 : Nat)]) :: (rl, .cells VT [hd g.gd 161, ptr rn, .int .u64 (150 : Nat)]) :: (rn, .cells 161 [ptr rt]) :: (rt, .cells 155 [x, y]) :: F ∧ a = [eV e, .iface 161 (ptr rt), .chan none, tyV g.gd 155, .chan none, .chan none, ptr rb, .chan none, .bool false, .chan none, .chan none, .chan none, .chan none, .chan none, .chan none, .chan none, .chan none, .chan none, .chan none, .chan none, .chan none, .chan none, .chan none, .chan none, .chan none, .chan none, .chan none, .chan none, .chan none, .chan none, .chan none, .chan none, .chan none, .chan none, .chan none, .chan none, .chan none, .chan none, .chan none, .chan none, .chan none, .chan none, .chan none, .chan none, .chan none, .chan none, .chan none, .chan none, .chan none, .chan none, .chan none, .chan none, .chan none, .chan none, .chan none, .chan none, .chan none, .chan none, .chan none, .chan none, .chan none, .chan none]) (n := 0) rfl ?_ ?_
  · exact ⟨rfl, rfl, rfl⟩
  rintro q a L' ⟨rfl, rfl, rfl⟩
  refine yG ?_
  refine OS.extX rfl (fun _ => rfl) ((tOf (T := 27) hG3.d fun u w => by kernel_rfl).mono ?_)
  rintro v L' ⟨rfl, rfl⟩
  refine ⟨_, rfl, ?_⟩
  refine yG ?_
  refine OS.invX rfl (fun h => RES.inv (y := .agg #[hd g.gd 27]) rfl rfl rfl rfl (mAssign g.gd 27)) ((tAssign (b := false) hG3.d fun w => by kernel_rfl).mono ?_)
  rintro v L' ⟨rfl, rfl⟩
  refine ⟨_, rfl, ?_⟩
  refine yG ?_
  refine OS.assertI rfl rfl rfl (fun ρ u w _ => ⟨_, nAsE u w, nope ρ⟩) rfl ?_
  refine yG ?_
  refine OS.assertI rfl rfl rfl (fun ρ u w _ => ⟨_, nUnE u w, nope ρ⟩) rfl ?_
  refine yG ?_
  refine OS.assertI rfl rfl rfl (fun ρ u w _ => ⟨_, nUnsE u w, nope ρ⟩) rfl ?_
  refine yG ?_
  exact ⟨_, ⟨rfl, rfl⟩, Sub.drops 3 rfl⟩
/-- It bears one that is. -/
theorem as_fe {no e : Int} {x y : Value} {rt rn rl : Nat} {F : RL} (hG : GL g F) : CS Tryz.prog 82 [fV no e, .iface 162 (ptr rt), rv g.gd 162 rn 150, tyV g.gd 27]
    ((rl, .cells VT [hd g.gd 162, ptr rn, .int .u64 (150 : Nat)]) :: (rn, .cells 162 [ptr rt]) :: (rt, .cells 27 [x]) :: F) fun v L' => ∃ L₁, (v = .bool true ∧ L₁ = (rt, .cells 27 [.int .i64 e]) :: F) ∧ Sub L₁ L' := by
  refine CS.mk (fn := Tryz.f82) rfl rfl rfl rfl ?_
  refine yG ?_
  refine OS.fresh rfl (e_new (fun _ => rfl) rfl) (fun _ => rfl) (fun rb => ?_)
  refine yG ?_
  have hG3 : GL g ((rb, .cells VT [hd g.gd 162, ptr rn, .int .u64 (150 : Nat)]) :: (rl, .cells VT [hd g.gd 162, ptr rn, .int .u64 (150 : Nat)]) :: (rn, .cells 162 [ptr rt]) :: (rt, .cells 27 [x]) :: F) := hG.mono fun p hp => List.mem_cons_of_mem _ (List.mem_cons_of_mem _ (List.mem_cons_of_mem _ (List.mem_cons_of_mem _ hp)))
  refine LS.loopJ [0, 1, 3, 6, 8] (fun q a L' => (q = 1 ∧ L' = (rb, .cells VT [hd g.gd 162, ptr rn, .int .u64 (150 : Nat)]) :: (rl, .cells VT [hd g.gd 162, ptr rn, .int .u64 (150 : Nat)]) :: (rn, .cells 162 [ptr rt]) :: (rt, .cells 27 [x]) :: F ∧ a = [fV no e, .iface 162 (ptr rt), .chan none, tyV g.gd 27, .chan none, .chan none, ptr rb, .chan none, .bool false, .chan none, .chan none, .chan none, .chan none, .chan none, .chan none, .chan none, .chan none, .chan none, .chan none, .chan none, .chan none, .chan none, .chan none, .chan none, .chan none, .chan none, .chan none, .chan none, .chan none, .chan none, .chan none, .chan none, .chan none, .chan none, .chan none, .chan none, .chan none, .chan none, .chan none, .chan none, .chan none, .chan none, .chan none, .chan none, .chan none, .chan none, .chan none, .chan none, .chan none, .chan none, .chan none, .chan none, .chan none, .chan none, .chan none, .chan none, .chan none, .chan none, .chan none, .chan none, .chan none, .chan none]) ∨ (q = 0 ∧ L' = (rb, .cells VT [hd g.gd 162, ptr rn, .int .u64 (150 : Nat)]) :: (rl, .cells VT [hd g.gd 162, ptr rn, .int .u64 (150 : Nat)]) :: (rn, .cells 162 [ptr rt]) :: (rt, .cells 27 [x]) :: F ∧ a = [eV e, .iface 162 (ptr rt), .chan none, tyV g.gd 27, .chan none, .chan none, ptr rb, .chan none, .bool false, .chan none, .chan none, .chan none, .chan none, .chan none, .chan none, .chan none, .chan none, .chan none, .chan none, .chan none, .chan none, .chan none, .chan none, .chan none, .chan none, .chan none, .chan none, .chan none, .chan none, .chan none, .chan none, .chan none, .chan none, .chan none, .chan none, .chan none, .chan none, .chan none, .chan none, .chan none, .chan none, .chan none, .chan none, .chan none, .chan none, .chan none, .chan none, .chan none, .chan none, .chan none, .chan none, .chan none, .chan none, .chan none, .chan none, .chan none, .chan none, .chan none, .chan none, .chan none, .chan none, .chan none])) (n := 1) rfl ?_ ?_
  · exact .inl ⟨rfl, rfl, rfl⟩
  rintro q a L' (⟨rfl, rfl, rfl⟩ | ⟨rfl, rfl, rfl⟩)
  · refine yG ?_
    refine OS.extX rfl (fun _ => rfl) ((tOf (T := 155) hG3.d fun u w => by kernel_rfl).mono ?_)
    rintro v L' ⟨rfl, rfl⟩
    refine ⟨_, rfl, ?_⟩
    refine yG ?_
    refine OS.invX rfl (fun h => RES.inv (y := .agg #[hd g.gd 155]) rfl rfl rfl rfl (mAssign g.gd 155)) ((tAssign (b := false) hG3.d fun w => by kernel_rfl).mono ?_)
    rintro v L' ⟨rfl, rfl⟩
    refine ⟨_, rfl, ?_⟩
    refine yG ?_
    refine OS.assertI rfl rfl rfl (fun ρ u w _ => ⟨_, nAs u w, nope ρ⟩) rfl ?_
    refine yG ?_
    refine OS.assertI rfl rfl rfl (fun ρ u w h => ⟨_, yUn u w, .tuple (.cons (.iface h) (.cons (.bool _) .nil))⟩) rfl ?_
    refine yG ?_
    refine OS.invC noGo rfl (fun h => RES.inv (y := .agg #[.int .i64 no, eV e]) rfl rfl rfl rfl fun ρ u w h => mUnwrap _ ρ u w h ⟨_, _, rfl⟩) ((Unwrap_ct).mono ?_)
    rintro v L' ⟨rfl, rfl⟩
    refine ⟨_, rfl, ?_⟩
    refine yG ?_
    exact ⟨0, by omega, .inr ⟨rfl, rfl, rfl⟩⟩
  · refine yG ?_
    refine OS.extX rfl (fun _ => rfl) ((tOf (T := 27) hG3.d fun u w => by kernel_rfl).mono ?_)
    rintro v L' ⟨rfl, rfl⟩
    refine ⟨_, rfl, ?_⟩
    refine yG ?_
    refine OS.invX rfl (fun h => RES.inv (y := .agg #[hd g.gd 27]) rfl rfl rfl rfl (mAssign g.gd 27)) ((tAssign (b := true) hG3.d fun w => by kernel_rfl).mono ?_)
    rintro v L' ⟨rfl, rfl⟩
    refine ⟨_, rfl, ?_⟩
    refine yG ?_
    refine OS.extX rfl (fun _ => rfl) ((vElem (E := 27) (k' := 386) hG3.d (List.mem_cons_of_mem _ (List.mem_cons_of_mem _ (List.mem_cons_self ..))) rfl rfl (fun a w => by kernel_rfl) (fun w => by kernel_rfl) (fun a w => by kernel_rfl)).mono ?_)
    rintro v L' ⟨rfl, rfl⟩
    refine ⟨_, rfl, ?_⟩
    refine yG ?_
    refine OS.extX rfl (fun _ => rfl) ((vOf (k := 130) hG3.d rfl rfl fun a w => by kernel_rfl).mono ?_)
    rintro v L' ⟨r2, rfl, rfl⟩
    refine ⟨_, rfl, ?_⟩
    refine OS.extX rfl (fun _ => rfl) ((vSet (i := 4) (hG3.mono fun p hp => List.mem_cons_of_mem _ hp).d rfl (List.mem_cons_self ..) rfl rfl rfl rfl rfl (fun a w => by kernel_rfl) (fun a w => by kernel_rfl) rfl (fun w => by kernel_rfl) (store_to 4 rfl rfl rfl rfl rfl)).mono ?_)
    rintro v L' ⟨rfl, rfl⟩
    refine ⟨_, rfl, ?_⟩
    refine yG ?_
    exact ⟨_, ⟨rfl, rfl⟩, Sub.drops 4 rfl⟩
theorem As_ff {no e : Int} {x y : Value} {rt : Nat} {F : RL} (hG : GL g F) : CS Tryz.prog 67 [fV no e, .iface 161 (ptr rt)] ((rt, .cells 155 [x, y]) :: F) fun v L' => v = .bool true ∧ L' = (rt, .cells 155 [.int .i64 no, eV e]) :: F :=
  As_ct (T := 161) (E := 155) (k := 150) (k' := 25) (hG.mono fun p hp => List.mem_cons_of_mem _ hp) rfl rfl rfl rfl (fun a w => by kernel_rfl) (fun a w => by kernel_rfl) (fun w => by kernel_rfl) (fun a w => by kernel_rfl) (fun w => by kernel_rfl) (fun w => by kernel_rfl) (fun w => by kernel_rfl) fun rn rl => as_ff (no := no) hG
theorem As_fe {no e : Int} {x y : Value} {rt : Nat} {F : RL} (hG : GL g F) : CS Tryz.prog 67 [fV no e, .iface 162 (ptr rt)] ((rt, .cells 27 [x]) :: F) fun v L' => v = .bool true ∧ L' = (rt, .cells 27 [.int .i64 e]) :: F :=
  As_ct (T := 162) (E := 27) (k := 150) (k' := 2) (hG.mono fun p hp => List.mem_cons_of_mem _ hp) rfl rfl rfl rfl (fun a w => by kernel_rfl) (fun a w => by kernel_rfl) (fun w => by kernel_rfl) (fun a w => by kernel_rfl) (fun w => by kernel_rfl) (fun w => by kernel_rfl) (fun w => by kernel_rfl) fun rn rl => as_fe (no := no) (y := y) hG
theorem As_ef {no e : Int} {x y : Value} {rt : Nat} {F : RL} (hG : GL g F) : CS Tryz.prog 67 [eV e, .iface 161 (ptr rt)] ((rt, .cells 155 [x, y]) :: F) fun v L' => v = .bool false ∧ L' = (rt, .cells 155 [x, y]) :: F :=
  As_ct (T := 161) (E := 155) (k := 150) (k' := 25) (hG.mono fun p hp => List.mem_cons_of_mem _ hp) rfl rfl rfl rfl (fun a w => by kernel_rfl) (fun a w => by kernel_rfl) (fun w => by kernel_rfl) (fun a w => by kernel_rfl) (fun w => by kernel_rfl) (fun w => by kernel_rfl) (fun w => by kernel_rfl) fun rn rl => as_ef (no := no) hG
theorem As_ee {no e : Int} {x y : Value} {rt : Nat} {F : RL} (hG : GL g F) : CS Tryz.prog 67 [eV e, .iface 162 (ptr rt)] ((rt, .cells 27 [x]) :: F) fun v L' => v = .bool true ∧ L' = (rt, .cells 27 [.int .i64 e]) :: F :=
  As_ct (T := 162) (E := 27) (k := 150) (k' := 2) (hG.mono fun p hp => List.mem_cons_of_mem _ hp) rfl rfl rfl rfl (fun a w => by kernel_rfl) (fun a w => by kernel_rfl) (fun w => by kernel_rfl) (fun a w => by kernel_rfl) (fun w => by kernel_rfl) (fun w => by kernel_rfl) (fun w => by kernel_rfl) fun rn rl => as_ee (no := no) (y := y) hG
/-- What is told of an error that was handed up. -/
theorem dTold_nil {L : RL} : CS Tryz.prog 49 [.nilIface] L fun v L' => v = .tuple #[.int .i64 0, .int .i64 0] ∧ L' = L := by
  refine CS.less (R := fun v L' => v = .tuple #[.int .i64 0, .int .i64 0] ∧ ∃ x y, L' = x :: y :: L) ?_ fun v L' ⟨h1, x, y, h2⟩ => ⟨L, by rw [h2]; exact Sub.drops 2 rfl, h1, rfl⟩
  refine CS.mk (fn := Tryz.f49) rfl rfl rfl rfl ?_
  refine yG ?_
  refine OS.fresh rfl (e_new (fun _ => rfl) rfl) (fun _ => rfl) (fun r4 => ?_)
  refine yG ?_
  refine OS.fresh rfl (e_new (fun _ => rfl) rfl) (fun _ => rfl) (fun r5 => ?_)
  refine yG ?_
  refine OS.call noGo rfl (fun _ => rfl) ((As_nil).mono ?_)
  rintro v L' ⟨rfl, rfl⟩
  refine ⟨_, rfl, ?_⟩
  refine yG ?_
  refine OS.call noGo rfl (fun _ => rfl) ((As_nil).mono ?_)
  rintro v L' ⟨rfl, rfl⟩
  refine ⟨_, rfl, ?_⟩
  refine yG ?_
  repeat refine LS.seq ?_
  refine LS.drawn noGo mixed [(0, false), (1, false), (2, false), (3, false), (4, false)] rfl rfl (by kernel_rfl) ?_
  refine yG ?_
  exact ⟨rfl, _, _, rfl⟩
theorem dTold_f {no e : Int} {L : RL} (hG : GL g L) : CS Tryz.prog 49 [fV no e] L fun v L' => v = .tuple #[.int .i64 no, .int .i64 e] ∧ L' = L := by
  refine CS.less (R := fun v L' => v = .tuple #[.int .i64 no, .int .i64 e] ∧ ∃ x y, L' = x :: y :: L) ?_ fun v L' ⟨h1, x, y, h2⟩ => ⟨L, by rw [h2]; exact Sub.drops 2 rfl, h1, rfl⟩
  refine CS.mk (fn := Tryz.f49) rfl rfl rfl rfl ?_
  refine yG ?_
  refine OS.fresh rfl (e_new (fun _ => rfl) rfl) (fun _ => rfl) (fun r4 => ?_)
  refine yG ?_
  refine OS.fresh rfl (e_new (fun _ => rfl) rfl) (fun _ => rfl) (fun r5 => ?_)
  refine yG ?_
  refine OS.sub (Sub.pulls [1] rfl) ?_
  refine OS.call noGo rfl (fun _ => rfl) ((As_ff (hG.mono fun p hp => List.mem_cons_of_mem _ hp)).mono ?_)
  rintro v L' ⟨rfl, rfl⟩
  refine ⟨_, rfl, ?_⟩
  refine yG ?_
  refine OS.sub (Sub.pulls [1] rfl) ?_
  refine OS.call noGo rfl (fun _ => rfl) ((As_fe (y := .nilIface) (hG.mono fun p hp => List.mem_cons_of_mem _ hp)).mono ?_)
  rintro v L' ⟨rfl, rfl⟩
  refine ⟨_, rfl, ?_⟩
  refine yG ?_
  repeat refine LS.seq ?_
  refine LS.drawn noGo mixed [(0, false), (1, false), (2, false), (3, false), (4, false)] rfl rfl (by kernel_rfl) ?_
  refine yG ?_
  exact ⟨rfl, _, _, rfl⟩
theorem dTold_e {e : Int} {L : RL} (hG : GL g L) : CS Tryz.prog 49 [eV e] L fun v L' => v = .tuple #[.int .i64 0, .int .i64 e] ∧ L' = L := by
  refine CS.less (R := fun v L' => v = .tuple #[.int .i64 0, .int .i64 e] ∧ ∃ x y, L' = x :: y :: L) ?_ fun v L' ⟨h1, x, y, h2⟩ => ⟨L, by rw [h2]; exact Sub.drops 2 rfl, h1, rfl⟩
  refine CS.mk (fn := Tryz.f49) rfl rfl rfl rfl ?_
  refine yG ?_
  refine OS.fresh rfl (e_new (fun _ => rfl) rfl) (fun _ => rfl) (fun r4 => ?_)
  refine yG ?_
  refine OS.fresh rfl (e_new (fun _ => rfl) rfl) (fun _ => rfl) (fun r5 => ?_)
  refine yG ?_
  refine OS.sub (Sub.pulls [1] rfl) ?_
  refine OS.call noGo rfl (fun _ => rfl) ((As_ef (no := 0) (hG.mono fun p hp => List.mem_cons_of_mem _ hp)).mono ?_)
  rintro v L' ⟨rfl, rfl⟩
  refine ⟨_, rfl, ?_⟩
  refine yG ?_
  refine OS.sub (Sub.pulls [1] rfl) ?_
  refine OS.call noGo rfl (fun _ => rfl) ((As_ee (no := 0) (y := .nilIface) (hG.mono fun p hp => List.mem_cons_of_mem _ hp)).mono ?_)
  rintro v L' ⟨rfl, rfl⟩
  refine ⟨_, rfl, ?_⟩
  refine yG ?_
  repeat refine LS.seq ?_
  refine LS.drawn noGo mixed [(0, false), (1, false), (2, false), (3, false), (4, false)] rfl rfl (by kernel_rfl) ?_
  refine yG ?_
  exact ⟨rfl, _, _, rfl⟩
end
end Go.Proofs.YtmdcfnnoeimakaaGreatDoor
