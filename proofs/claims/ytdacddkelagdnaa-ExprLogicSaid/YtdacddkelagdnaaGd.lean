/- Layer 10: Match: the pieces are told by an iterator. -/
import Derived.Test.YtdacddkelagdnaaGc
namespace Go.Am
theorem Sub.rot {X G : RL} : Sub (G ++ X) (X ++ G) := ⟨[], by simpa using List.perm_append_comm⟩
theorem Sub.tail {x : Nat × ARow} {L : RL} : Sub L (x :: L) := ⟨[x], by simpa using (List.perm_append_comm (l₁ := [x]) (l₂ := L))⟩
section
variable {P : Program} {o : Oper} {a : Slots} {L : RL} {t : TypeId} {x : Operand}
theorem e_box {v : Value} (ho : o.op = .box t x) (hx : aev a x = some v) (hj : isJ v = false ∧ v.cells.toList = [v]) (hs : (sizeB P t).isSome = true) : ∀ h, Has h L → ∃ r h₁, opB P a o h = some (.val (ptrTo r) h₁) ∧ Has h₁ ((r, .cells t [v]) :: L) :=
  e_new (fun h => by simp only [opB, ho, hx, hj.1, hj.2]) hs
end
end Go.Am
namespace Go.Proofs.Ytdacddkelagdnaa
open Go.Am
set_option linter.unusedVariables false
set_option maxRecDepth 20000
attribute [local irreducible] OS LSr ODS CS YS

abbrev ptr (r : Nat) : Value := .pointer (some ⟨r, 0, none⟩)
abbrev boxRow (s : List UInt8) : ARow := .cells 9 [str s]
theorem pieces_ct {L : RL} (p : List UInt8) : CS Try.prog 38 [str p] L fun v L' => ∃ rb, v = .func (.func 45) #[] #[ptr rb] ∧ L' = (rb, boxRow p) :: L := by
  refine CS.mk (fn := Try.f38) rfl rfl rfl rfl ?_
  refine yG ?_
  refine OS.fresh rfl (e_box rfl rfl ⟨rfl, rfl⟩ rfl) (fun _ => rfl) (fun rb => ?_)
  refine yG ?_
  rfl
/-- The iterator: whatever a round does to rows of its own, the pieces are told in their order. -/
theorem pieces1_ct {rb r : Nat} {p : List UInt8} {G : RL} (hp : p.length ≤ 1000000) (J : List Pc → RL → Prop) (hr : ∀ D G, J D G → ∃ q, (r, .loop q) ∈ G) (h0 : J [] G)
    (hyes : ∀ D w G X, IsPc w → J D G → YS Try.prog r [str w] (G ++ X) fun v L' => ∃ G', v = .bool true ∧ L' = G' ++ X ∧ J (D ++ [pcOf w]) G') :
    CS Try.prog 45 [.func (.yield r) #[] #[], ptr rb] ((rb, boxRow p) :: G) fun v L' => ∃ G', J (ps p) G' ∧ L' = (rb, boxRow p) :: G' := by
  refine CS.mk (fn := Try.f45) rfl rfl rfl rfl ?_
  refine yG ?_
  refine LS.loopJ [0, 1, 3] (fun q a L' => ∃ D w G, q = w.length ∧ w.length ≤ p.length ∧ D ++ ps w = ps p ∧ J D G ∧ L' = (rb, boxRow p) :: G ∧
    a = [.func (.yield r) #[] #[], ptr rb, .chan none, str w, .chan none, .chan none, .chan none, .chan none, .chan none, .chan none, .chan none, .chan none, .chan none, .chan none, .chan none, .chan none, .chan none, .chan none, .chan none]) (n := p.length) rfl ⟨[], p, G, rfl, Nat.le_refl _, rfl, h0, rfl, rfl⟩ ?_
  rintro q a L' ⟨D, w, G, rfl, hwl, hD, hJ, rfl, rfl⟩
  by_cases hw : w = []
  · subst hw
    refine yG ?_
    refine LS.exit ?_
    refine ⟨_, fun _ _ => rfl, G, ?_, rfl⟩
    rw [ps_nil, List.append_nil] at hD
    rw [← hD]; exact hJ
  have hb : (!bytesEq w []) = true := by rw [beq_bytes]; simpa using hw
  have hs1 : 1 ≤ pSize w ∧ pSize w ≤ w.length := by
    cases w with
    | nil => exact absurd rfl hw
    | cons c w => exact pSize_le
  refine yG ?_
  refine OS.call noGo rfl (fun _ => rfl) ((pieceSize_ct w (by omega)).mono ?_)
  rintro v L' ⟨rfl, rfl⟩
  refine yG ?_
  refine OS.pure rfl (e_part (s := w) (l := 0) (u := pSize w) rfl rfl rfl rfl rfl rfl rfl (by omega) (by omega)) rfl ?_
  obtain ⟨q, hq⟩ := hr D G hJ
  have hy := hyes D (w.take (pSize w)) G [(rb, boxRow p)] (isPc_take hw) hJ
  refine OS.yield rfl rfl rfl rfl rfl ⟨q, by simp [hq]⟩ (YS.sub (L' := G ++ [_]) (Sub.rot (X := [_])) (hy.mono ?_))
  rintro v L' ⟨G', rfl, rfl, hJ'⟩
  refine ⟨_, rfl, ?_⟩
  refine OS.sub (Sub.rot (G := [_]) (X := G')) ?_
  refine yG ?_
  refine OS.pure rfl (e_part (s := w) (l := pSize w) (u := w.length) rfl rfl rfl rfl rfl rfl rfl (by omega) (by omega)) rfl ?_
  refine yG ?_
  refine ⟨(w.drop (pSize w)).length, by rw [List.length_drop]; omega, D ++ [pcOf (w.take (pSize w))], w.drop (pSize w), G', rfl, by rw [List.length_drop]; omega, ?_, hJ', rfl, ?_⟩
  · rw [← hD, ps_cons hw]; simp
  · have : (w.drop (pSize w)).take (w.length - pSize w) = w.drop (pSize w) := List.take_of_length_le (by rw [List.length_drop]; omega)
    rw [this]
    rfl
theorem Match_ct {F : RL} (p s : List UInt8) (hs : s.length ≤ 1000000) : CS Try.prog 31 [str p, str s] F fun v L' => v = .bool (mt p s) ∧ L' = F := by
  suffices h : CS Try.prog 31 [str p, str s] F fun v L' => v = .bool (mt p s) ∧ Sub F L' from
    h.less fun v L' ⟨h1, h2⟩ => ⟨F, h2, h1, rfl⟩
  refine CS.mk (fn := Try.f31) rfl rfl rfl rfl ?_
  refine yG ?_
  refine OS.fresh rfl (e_box rfl rfl ⟨rfl, rfl⟩ rfl) (fun _ => rfl) (fun rs => ?_)
  refine yG ?_
  refine OS.call noGo rfl (fun _ => rfl) ((Check_ct p).mono ?_)
  rintro v L' ⟨rfl, rfl⟩
  by_cases hp : chk p = 0
  · have hb : (!ieqB (chk p) 0) = false := by rw [hp]; rfl
    have hpl : p.length ≤ 64 := by
      unfold chk at hp
      split at hp
      · cases hp
      · omega
    refine yG ?_
    refine OS.call noGo rfl (fun _ => rfl) ((newRow_ct s hs).mono ?_)
    rintro v L' ⟨rr, rfl, rfl⟩
    refine yG ?_
    refine OS.fresh rfl (e_new (fun _ => rfl) rfl) (fun _ => rfl) (fun ra => ?_)
    refine yG ?_
    refine OS.call noGo rfl (fun _ => rfl) ((pieces_ct p).mono ?_)
    rintro v L' ⟨rb, rfl, rfl⟩
    refine yG ?_
    refine LS.rangeFunc noGo rfl (fun r => ?_)
    generalize hp0 : LP.start _ _ _ _ = p0
    have hms0 : rowRow (s.length + 1) (fun k => decide (k = 0)) = rowRow (s.length + 1) fun k => ms [] (s.take k) := by
      unfold rowRow
      congr 1
      refine rw_congr fun k hk => ?_
      unfold ms
      by_cases h : k = 0
      · subst h; rfl
      · have : 0 < (s.take k).length := by rw [List.length_take]; omega
        cases hx : s.take k with
        | nil => rw [hx] at this; simp at this
        | cons c t => simp [h]
    rw [hms0]
    refine CS.sub (Sub.pulls [1] rfl) ((pieces1_ct (p := p) (r := r) (G := (r, .loop p0) :: (ra, .cells 74 [rowSl rr (s.length + 1)]) :: (rr, rowRow (s.length + 1) fun k => ms [] (s.take k)) :: (rs, boxRow s) :: F) (by omega)
      (fun D G => G = (r, .loop p0) :: (ra, .cells 74 [rowSl rr (s.length + 1)]) :: (rr, rowRow (s.length + 1) fun k => ms D (s.take k)) :: (rs, boxRow s) :: F)
      (fun D G hG => ⟨p0, by rw [hG]; simp⟩) rfl ?_).mono ?_)
    · rintro D w G X hw rfl
      subst hp0
      refine YS.mk 0 rfl rfl rfl ?_
      refine yG ?_
      refine ⟨rfl, 0, _, rfl, rfl, ?_⟩
      refine yG ?_
      refine OS.sub (Sub.pulls [2] rfl) ?_
      refine OS.call noGo rfl (fun _ => rfl) ((goOn_ct hw hs).mono ?_)
      rintro v L' rfl
      refine ⟨_, rfl, ?_⟩
      refine OS.sub (Sub.pulls [2, 2] rfl) ?_
      refine yG ?_
      exact ⟨0, _, rfl, rfl, _, rfl, rfl, rfl⟩
    · rintro v L' ⟨G', rfl, rfl⟩
      refine ⟨1, p0, _, rfl, rfl, by subst hp0; simp [LP.start], ?_⟩
      have hpend : p0.pending = none := by subst hp0; rfl
      rw [hpend]
      show LSr _ _ _ _ _ _
      refine yG ?_
      refine OS.pure rfl (e_index (j := s.length) (sz := 1) rfl rfl rfl rfl rfl (by omega)) rfl ?_
      refine OS.read rfl (e_load 2 rfl rfl rfl rfl (part_one rfl (rw_at (by omega)))) rfl ?_
      refine yG ?_
      refine ⟨?_, ⟨_, List.perm_append_comm (l₁ := [_, _, _, _])⟩⟩
      unfold mt
      rw [decide_eq_true hp, List.take_length]; rfl
  · have hb : (!ieqB (chk p) 0) = true := by rw [ieqB_eq]; simpa using hp
    refine yG ?_
    refine ⟨?_, Sub.tail⟩
    unfold mt
    rw [decide_eq_false hp]; rfl
end Go.Proofs.Ytdacddkelagdnaa
