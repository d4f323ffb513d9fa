/- Layer 11: ExprLogic's law. -/
import Derived.Test.YtdacddkelagdnaaEp
namespace Go.Proofs.Ytdacddkelagdnaa
open Go.Am
set_option linter.unusedVariables false
set_option maxRecDepth 20000
set_option maxHeartbeats 4000000
attribute [local irreducible] OS LSr ODS CS

def duo2 (l : List (Value × List W × Bool)) : List Value := l.flatMap fun x => [x.1, .bool x.2.2]
theorem duo2_len : ∀ l, (duo2 l).length = l.length * 2
  | [] => rfl
  | x :: l => by
    have := duo2_len l
    unfold duo2 at this ⊢
    rw [List.flatMap_cons, List.length_append, this, List.length_cons, List.length_cons, List.length_cons, List.length_nil]; omega
theorem duo2_cut : ∀ {l : List (Value × List W × Bool)} {k : Nat} {x : Value × List W × Bool}, l[k]? = some x → cut (duo2 l) (k * 2) 2 = some [x.1, .bool x.2.2]
  | y :: l, 0, x, h => by
    obtain rfl : y = x := by simpa using h
    rw [cut_of (by rw [duo2_len]; simp; omega)]
    rfl
  | y :: l, k + 1, x, h => by
    have hx : l[k]? = some x := by simpa using h
    have hk := (List.getElem?_eq_some_iff.1 hx).1
    have ih := duo2_cut hx
    rw [cut_of (by rw [duo2_len]; omega)] at ih
    rw [cut_of (by rw [duo2_len]; simp; omega), show (k + 1) * 2 = k * 2 + 2 by omega]
    exact ih
/-- What holds is as it must be, if it is a condition. -/
def Hl (w : List W) (b : Bool) : Prop := errN (parse w) = 0 → valB (parse w) = b
theorem Sd.hl {w : List W} {c : X} {b : Bool} (h : Sd .c w c []) (hb : ev .c c = b) : Hl w b := by
  intro he
  rcases h.parse with h1 | h1
  · rw [h1]; exact hb
  · rw [h1] at he; cases he
theorem ev_one (x : X) : ev .c (.cons (.cons (.par x) .nil) .nil) = ev .c x := by simp [ev]
section
variable {a b c : List W} {x y z : X} (ha : Sd .c a x []) (pa : Pl a) (hb : Sd .c b y []) (pb : Pl b) (hc : Sd .c c z []) (pc : Pl c)
include ha pa hb pb hc pc
theorem hl_brk : Hl (brk a) (ev .c x) := (sd_brk ha pa hb pb hc pc).hl (ev_one x)
theorem hl_or : Hl (brk a ++ wOr :: brk b) (ev .c x || ev .c y) := (sd_or ha pa hb pb hc pc).hl (by simp [ev])
theorem hl_and : Hl (brk a ++ wAnd :: brk b) (ev .c x && ev .c y) := (sd_and ha pa hb pb hc pc).hl (by simp [ev])
theorem hl_same : Hl (brk a ++ wOr :: brk a) (ev .c x) := (sd_same ha pa hb pb hc pc).hl (by simp [ev])
theorem hl_and_or : Hl (brk a ++ wAnd :: (brk b ++ wOr :: brk c)) (ev .c x && ev .c y || ev .c z) := (sd_and_or ha pa hb pb hc pc).hl (by simp [ev])
theorem hl_or_and : Hl (brk a ++ wOr :: (brk b ++ wAnd :: brk c)) (ev .c x || ev .c y && ev .c z) := (sd_or_and ha pa hb pb hc pc).hl (by simp [ev])
theorem hl_nots : Hl (wNot :: (brk a ++ wAnd :: wNot :: brk b)) (!ev .c x && !ev .c y) := (sd_nots ha pa hb pb hc pc).hl (by simp [ev])
theorem hl_not_or : Hl (wNot :: brk (brk a ++ wOr :: brk b)) (!ev .c x && !ev .c y) := (sd_not_or ha pa hb pb hc pc).hl (by simp [ev])
theorem hl_and_in : Hl (brk a ++ wAnd :: brk (brk b ++ wOr :: brk c)) (ev .c x && (ev .c y || ev .c z)) := (sd_and_in ha pa hb pb hc pc).hl (by simp [ev])
end
theorem fit_app {u v : List W} (hu : Fit u ∧ u.length ≤ 40000) (hv : Fit v ∧ v.length ≤ 40000) : Fit (u ++ v) := ⟨by rw [List.length_append]; omega, fun t ht => by
  rcases List.mem_append.1 ht with h | h
  · exact hu.1.2 t h
  · exact hv.1.2 t h⟩
/-- Words that are short enough to be put together. -/
def Sh (w : List W) (n : Nat) : Prop := w.length ≤ n ∧ ∀ t ∈ w, t.length ≤ 1000000
theorem Sh.fit {w : List W} {n : Nat} (h : Sh w n) (hn : n ≤ 100000) : Fit w := ⟨Nat.le_trans h.1 hn, h.2⟩
theorem Sh.app {u v : List W} {m n : Nat} (h : Sh u m) (k : Sh v n) : Sh (u ++ v) (m + n) := ⟨by rw [List.length_append]; exact Nat.add_le_add h.1 k.1, fun t ht => by
  rcases List.mem_append.1 ht with h' | h'
  · exact h.2 t h'
  · exact k.2 t h'⟩
theorem Sh.brk {w : List W} {n : Nat} (h : Sh w n) : Sh (brk w) (n + 2) := ⟨by rw [brk_len]; exact Nat.add_le_add_right h.1 2, fun t ht => by
  unfold Go.Proofs.Ytdacddkelagdnaa.brk at ht
  rcases List.mem_cons.1 ht with rfl | ht
  · decide
  · rcases List.mem_append.1 ht with ht | ht
    · exact h.2 t ht
    · simp at ht; subst ht; decide⟩
theorem Sh.cons {t : W} {w : List W} {n : Nat} (ht : t.length ≤ 1000000) (h : Sh w n) : Sh (t :: w) (n + 1) := ⟨by rw [List.length_cons]; exact Nat.add_le_add_right h.1 1, fun u hu => by
  rcases List.mem_cons.1 hu with rfl | hu
  · exact ht
  · exact h.2 u hu⟩
theorem Fi3.sh {w : List W} (h : Fi3 w) : Sh w 3000 := ⟨h.1, fun t ht => Nat.le_trans (h.2 t ht) (by decide)⟩
theorem Sh.le {w : List W} {m n : Nat} (h : Sh w m) (hn : m ≤ n) : Sh w n := ⟨Nat.le_trans h.1 hn, h.2⟩
theorem Sh.cons' {t : W} {w : List W} {n : Nat} (h : Sh w n) (ht : t.length ≤ 1000000) : Sh (t :: w) (n + 1) := Sh.cons ht h
theorem OS.mono {P : Program} {ops rest : List Oper} {a : Slots} {L : RL} {K K' : Slots → RL → Prop} (hk : OS P ops rest a L K') (hh : ∀ a L, K' a L → K a L) : OS P ops rest a L K := by
  unfold OS at *
  exact fun h H ro ds opsA i ρ act w Q ho hd hr hdf HR hQ => hk h H ro ds opsA i ρ act w Q ho hd hr hdf HR fun a' h' ρ' act' w' ⟨L, k, HL⟩ => hQ a' h' ρ' act' w' ⟨L, hh _ _ k, HL⟩
theorem ElW.none {L : RL} : ElW L [] [] := rfl
theorem ElW.c {L : RL} {A : Option Addr} {n cp : Nat} {w : List W} {wss : List (List W)} {ds : List Value} (h : SV 1 L (.slice A n cp) w.length (strs w)) (hp : 0 < w.length) (k : ElW L wss ds) : ElW L (w :: wss) (.slice A n cp :: ds) := ⟨A, n, cp, ds, rfl, h, hp, k⟩
theorem logicLaw_ct {L : RL} {va vb vc : Value} {na nb nc : Nat} {a b c : List W} (ra : RO 1 L va na (strs a)) (rb : RO 1 L vb nb (strs b)) (rc : RO 1 L vc nc (strs c)) (hna : na ≤ 9000000000000000) (hnb : nb ≤ 9000000000000000) (hnc : nc ≤ 9000000000000000)
    (hwa : ∀ w ∈ a, w.length ≤ 140737488355328) (hwb : ∀ w ∈ b, w.length ≤ 140737488355328) (hwc : ∀ w ∈ c, w.length ≤ 140737488355328) :
    CS Try.prog 5 [va, vb, vc] L fun u _ => u = .bool true := by
  obtain rfl : a.length = na := by have := ra.sv.len; rw [strs_len] at this; omega
  obtain rfl : b.length = nb := by have := rb.sv.len; rw [strs_len] at this; omega
  obtain rfl : c.length = nc := by have := rc.sv.len; rw [strs_len] at this; omega
  have hva := ra.sv
  have hvb := rb.sv
  have hvc := rc.sv
  have hWa : Wd L va a := ra.wl
  have hWb : Wd L vb b := rb.wl
  have hWc : Wd L vc c := rc.wl
  clear ra rb rc
  refine CS.mk (fn := Try.f5) rfl rfl rfl rfl ?_
  refine yG ?_
  refine OS.call noGo rfl (fun _ => rfl) ((works_ct).mono ?_)
  rintro v' L2 ⟨rfl, hL⟩
  rw [hL]
  clear hL
  refine yG ?_
  refine OS.call noGo rfl (fun _ => rfl) ((large_ct hva hna hwa).mono ?_)
  rintro v' L2 ⟨b1, rfl, hb1, hL⟩
  rw [hL]
  clear hL
  rcases tf b1 with h1 | h1 <;> rw [h1]
  · refine yG ?_
    refine OS.call noGo rfl (fun _ => rfl) ((works_ct).mono ?_)
    rintro v' L2 ⟨rfl, hL⟩
    refine yG ?_
    rfl
  refine yG ?_
  refine OS.call noGo rfl (fun _ => rfl) ((large_ct hvb hnb hwb).mono ?_)
  rintro v' L2 ⟨b2, rfl, hb2, hL⟩
  rw [hL]
  clear hL
  rcases tf b2 with h2 | h2 <;> rw [h2]
  · refine yG ?_
    refine OS.call noGo rfl (fun _ => rfl) ((works_ct).mono ?_)
    rintro v' L2 ⟨rfl, hL⟩
    refine yG ?_
    rfl
  refine yG ?_
  refine OS.call noGo rfl (fun _ => rfl) ((large_ct hvc hnc hwc).mono ?_)
  rintro v' L2 ⟨b3, rfl, hb3, hL⟩
  rw [hL]
  clear hL
  rcases tf b3 with h3 | h3 <;> rw [h3]
  · refine yG ?_
    refine OS.call noGo rfl (fun _ => rfl) ((works_ct).mono ?_)
    rintro v' L2 ⟨rfl, hL⟩
    refine yG ?_
    rfl
  have fa3 := hb1 h1
  have fb3 := hb2 h2
  have fc3 := hb3 h3
  have ha4 := fa3.1
  have hb4 := fb3.1
  have hc4 := fc3.1
  refine yG ?_
  refine OS.call noGo rfl (fun _ => rfl) ((round_ct hva (by omega)).mono ?_)
  rintro v' L2 hx
  have i2 : ∀ p, p ∈ L → p ∈ L2 := hx.mem
  refine yG ?_
  refine OS.call noGo rfl (fun _ => rfl) ((round_ct (hvb.mono i2) (by omega)).mono ?_)
  rintro v' L3 hy
  have i3 : ∀ p, p ∈ L2 → p ∈ L3 := hy.mem
  refine yG ?_
  refine OS.call noGo rfl (fun _ => rfl) ((round_ct (hvc.mono fun p hp => i3 p (i2 p hp)) (by omega)).mono ?_)
  rintro v' L4 hz
  have i4 : ∀ p, p ∈ L3 → p ∈ L4 := hz.mem
  obtain ⟨Ax, cx, rfl⟩ := hx.wl.form
  obtain ⟨Ay, cy, rfl⟩ := hy.wl.form
  obtain ⟨Az, cz, rfl⟩ := hz.wl.form
  have hsx := hx.wl.mono fun p hp => i4 p (i3 p hp)
  have hsy := hy.wl.mono i4
  have hsz := hz.wl
  refine yG ?_
  refine OS.fresh rfl (e_new (fun _ => rfl) rfl) (fun _ => rfl) (fun rO => ?_)
  refine yG ?_
  refine OS.fresh rfl (e_new (fun _ => rfl) rfl) (fun _ => rfl) (fun rA => ?_)
  refine yG ?_
  refine OS.fresh rfl (e_new (fun _ => rfl) rfl) (fun _ => rfl) (fun rN => ?_)
  refine yG ?_
  refine OS.gen fun M hM => ?_
  have iM : ∀ p, p ∈ L4 → p ∈ M := fun p hp => by rw [hM]; simp [hp]
  have iL : ∀ p, p ∈ L → p ∈ M := fun p hp => iM p (i4 p (i3 p (i2 p hp)))
  have hsx := hsx.mono iM
  have hsy := hsy.mono iM
  have hsz := hsz.mono iM
  have hsO : SV 1 M (.slice (some ⟨rO, 0, none⟩) 1 1) 1 (strs [wOr]) := SV.row (e := 9) (by rw [hM]; simp [strs, wOr]) rfl
  have hsA : SV 1 M (.slice (some ⟨rA, 0, none⟩) 1 1) 1 (strs [wAnd]) := SV.row (e := 9) (by rw [hM]; simp [strs, wAnd]) rfl
  have hsN : SV 1 M (.slice (some ⟨rN, 0, none⟩) 1 1) 1 (strs [wNot]) := SV.row (e := 9) (by rw [hM]; simp [strs, wNot]) rfl
  clear hM iM hx hy hz i2 i3 i4
  refine OS.call noGo rfl (fun _ => rfl) ((plain_ct (hWa.mono iL) fa3.fit).mono ?_)
  rintro v' L5 ⟨rfl, hL⟩
  rw [hL]
  clear hL
  obtain ⟨pa, hpa⟩ : ∃ x, plainB a = x := ⟨_, rfl⟩
  obtain ⟨pb, hpb⟩ : ∃ x, plainB b = x := ⟨_, rfl⟩
  obtain ⟨pc, hpc⟩ : ∃ x, plainB c = x := ⟨_, rfl⟩
  rw [hpa]
  cases pa with
  | false =>
    refine yG ?_
    rfl
  | true =>
  refine yG ?_
  refine OS.call noGo rfl (fun _ => rfl) ((plain_ct (hWb.mono iL) fb3.fit).mono ?_)
  rintro v' L5 ⟨rfl, hL⟩
  rw [hL, hpb]
  clear hL
  cases pb with
  | false =>
    refine yG ?_
    rfl
  | true =>
  refine yG ?_
  refine OS.call noGo rfl (fun _ => rfl) ((plain_ct (hWc.mono iL) fc3.fit).mono ?_)
  rintro v' L5 ⟨rfl, hL⟩
  rw [hL, hpc]
  clear hL
  cases pc with
  | false =>
    refine yG ?_
    rfl
  | true =>
  obtain ⟨x, ea, qa⟩ := plain_pl hpa
  obtain ⟨y, eb, qb⟩ := plain_pl hpb
  obtain ⟨z, ec, qc⟩ := plain_pl hpc
  have da := parse_sd ea
  have db := parse_sd eb
  have dc := parse_sd ec
  have sa := fa3.sh.brk
  have sb := fb3.sh.brk
  have sc := fc3.sh.brk
  have e1 := hl_brk da qa db qb dc qc
  have e2 := hl_brk db qb dc qc da qa
  have e3 := hl_brk dc qc da qa db qb
  have f1 := hl_or da qa db qb dc qc
  have f2 := hl_and da qa db qb dc qc
  have f3 := hl_same da qa db qb dc qc
  have f4 := hl_and_or da qa db qb dc qc
  have f5 := hl_or_and da qa db qb dc qc
  have f6 := hl_nots da qa db qb dc qc
  have f7 := hl_not_or da qa db qb dc qc
  have f8 := hl_and_in da qa db qb dc qc
  generalize ev .c x = p at e1 e2 e3 f1 f2 f3 f4 f5 f6 f7 f8
  generalize ev .c y = q at e1 e2 e3 f1 f2 f3 f4 f5 f6 f7 f8
  generalize ev .c z = r at e1 e2 e3 f1 f2 f3 f4 f5 f6 f7 f8
  clear ea eb ec qa qb qc da db dc hpa hpb hpc
  refine yG ?_
  refine OS.call noGo rfl (fun _ => rfl) ((lawHolds_ct hsx (sa.fit (by decide))).mono ?_)
  rintro v' L5 ⟨rfl, hL⟩
  rw [hL]
  clear hL
  refine yG ?_
  refine OS.call noGo rfl (fun _ => rfl) ((lawHolds_ct hsy (sb.fit (by decide))).mono ?_)
  rintro v' L5 ⟨rfl, hL⟩
  rw [hL]
  clear hL
  refine yG ?_
  refine OS.call noGo rfl (fun _ => rfl) ((lawHolds_ct hsz (sc.fit (by decide))).mono ?_)
  rintro v' L5 ⟨rfl, hL⟩
  rw [hL]
  clear hL
  by_cases k1 : errN (parse (brk a)) = 0
  rotate_left
  · rw [decide_eq_false k1]
    refine yG ?_
    rfl
  by_cases k2 : errN (parse (brk b)) = 0
  rotate_left
  · rw [decide_eq_true k1, decide_eq_false k2]
    refine yG ?_
    rfl
  by_cases k3 : errN (parse (brk c)) = 0
  rotate_left
  · rw [decide_eq_true k1, decide_eq_true k2, decide_eq_false k3]
    refine yG ?_
    rfl
  rw [decide_eq_true k1, decide_eq_true k2, decide_eq_true k3, e1 k1, e2 k2, e3 k3]
  clear k1 k2 k3 e1 e2 e3
  have pba : 0 < (brk a).length := by rw [brk_len]; omega
  have pbb : 0 < (brk b).length := by rw [brk_len]; omega
  have pbc : 0 < (brk c).length := by rw [brk_len]; omega
  have w1 : [brk a, [wOr], brk b].flatten = brk a ++ wOr :: brk b := by simp
  have w2 : [brk a, [wAnd], brk b].flatten = brk a ++ wAnd :: brk b := by simp
  have w3 : [brk a, [wOr], brk a].flatten = brk a ++ wOr :: brk a := by simp
  have w4 : [brk a, [wAnd], brk b, [wOr], brk c].flatten = brk a ++ wAnd :: (brk b ++ wOr :: brk c) := by simp
  have w5 : [brk a, [wOr], brk b, [wAnd], brk c].flatten = brk a ++ wOr :: (brk b ++ wAnd :: brk c) := by simp
  have w6 : [[wNot], brk a, [wAnd], [wNot], brk b].flatten = wNot :: (brk a ++ wAnd :: wNot :: brk b) := by simp
  have w7 : ∀ u : List W, [[wNot], brk u].flatten = wNot :: brk u := fun u => by simp
  have w8 : ∀ u : List W, [brk a, [wAnd], brk u].flatten = brk a ++ wAnd :: brk u := fun u => by simp
  have wyOz : [brk b, [wOr], brk c].flatten = brk b ++ wOr :: brk c := by simp
  have s1 : Sh (brk a ++ wOr :: brk b) 20000 := (sa.app (sb.cons' (by decide))).le (by decide)
  have s2 : Sh (brk a ++ wAnd :: brk b) 20000 := (sa.app (sb.cons' (by decide))).le (by decide)
  have s3 : Sh (brk a ++ wOr :: brk a) 20000 := (sa.app (sa.cons' (by decide))).le (by decide)
  have s4 : Sh (brk a ++ wAnd :: (brk b ++ wOr :: brk c)) 20000 := (sa.app ((sb.app (sc.cons' (by decide))).cons' (by decide))).le (by decide)
  have s5 : Sh (brk a ++ wOr :: (brk b ++ wAnd :: brk c)) 20000 := (sa.app ((sb.app (sc.cons' (by decide))).cons' (by decide))).le (by decide)
  have s6 : Sh (wNot :: (brk a ++ wAnd :: wNot :: brk b)) 20000 := ((sa.app ((sb.cons' (by decide)).cons' (by decide))).cons' (by decide)).le (by decide)
  have s7 : Sh (wNot :: brk (brk a ++ wOr :: brk b)) 30000 := (s1.brk.cons' (by decide)).le (by decide)
  have s9 : Sh (brk b ++ wOr :: brk c) 20000 := (sb.app (sc.cons' (by decide))).le (by decide)
  have s8 : Sh (brk a ++ wAnd :: brk (brk b ++ wOr :: brk c)) 30000 := (sa.app (s9.brk.cons' (by decide))).le (by decide)
  refine yG ?_
  refine OS.mono (K' := fun a' R0 => ∃ (rS : Nat) (ent : List (Value × List W × Bool)), keepJ [7, 8, 9, 10, 11, 12, 13, 15, 17, 160, 161, 162] 0 a' = [.chan none, .chan none, .chan none, .chan none, .chan none, .chan none, .chan none, .slice Ax (brk a).length cx, .slice Ay (brk b).length cy, .slice Az (brk c).length cz, .slice (some ⟨rO, 0, none⟩) 1 1, .slice (some ⟨rA, 0, none⟩) 1 1, .slice (some ⟨rN, 0, none⟩) 1 1, .bool p, .chan none, .bool q, .chan none, .bool r, .chan none, .chan none, .chan none, .chan none, .chan none, .chan none, .chan none, .chan none, .chan none, .chan none, .chan none, .chan none, .chan none, .chan none, .chan none, .chan none, .chan none, .chan none, .chan none, .chan none, .chan none, .chan none, .chan none, .chan none, .chan none, .chan none, .chan none, .chan none, .chan none, .chan none, .chan none, .chan none, .chan none, .chan none, .chan none, .chan none, .chan none, .chan none, .chan none, .chan none, .chan none, .chan none, .chan none, .chan none, .chan none, .chan none, .chan none, .chan none, .chan none, .chan none, .chan none, .chan none, .chan none, .chan none, .chan none, .chan none, .chan none, .chan none, .chan none, .chan none, .chan none, .chan none, .chan none, .chan none, .chan none, .chan none, .chan none, .chan none, .chan none, .chan none, .chan none, .chan none, .chan none, .chan none, .chan none, .chan none, .chan none, .chan none, .chan none, .chan none, .chan none, .chan none, .chan none, .chan none, .chan none, .chan none, .chan none, .chan none, .chan none, .chan none, .chan none, .chan none, .chan none, .chan none, .chan none, .chan none, .chan none, .chan none, .chan none, .chan none, .chan none, .chan none, .chan none, .chan none, .chan none, .chan none, .chan none, .chan none, .chan none, .chan none, .chan none, .chan none, .chan none, .chan none, .chan none, .chan none, .chan none, .chan none, .chan none, .chan none, .chan none, .chan none, .chan none, .chan none, .chan none, .chan none, .chan none, .chan none, .chan none, .chan none, .chan none, .chan none, .chan none, .chan none, .chan none, .chan none, .chan none, .chan none, .chan none, .chan none, .chan none, .chan none, .slice (some ⟨rS, 0, none⟩) 6 6, .int .i64 6, .int .i64 0, .chan none, .chan none, .chan none, .chan none, .chan none, .chan none, .chan none, .chan none, .chan none, .chan none, .chan none, .chan none, .chan none, .chan none, .chan none, .chan none, .chan none, .chan none, .chan none, .chan none, .chan none, .chan none, .chan none, .chan none, .chan none, .chan none, .chan none, .chan none, .chan none, .chan none, .chan none, .chan none, .chan none, .chan none, .chan none, .chan none, .chan none, .chan none, .chan none, .chan none, .chan none, .chan none, .chan none, .chan none, .chan none, .chan none, .chan none, .chan none, .chan none, .chan none, .chan none, .chan none, .chan none, .chan none, .chan none, .chan none, .chan none, .chan none, .chan none, .chan none, .chan none, .chan none, .chan none, .chan none, .chan none, .chan none, .chan none, .chan none, .chan none, .chan none, .chan none] ∧ (∀ p, p ∈ M → p ∈ R0) ∧ SV 2 R0 (.slice (some ⟨rS, 0, none⟩) 6 6) 6 (duo2 ent) ∧ (∀ e ∈ ent, Wd R0 e.1 e.2.1 ∧ Fit e.2.1 ∧ Hl e.2.1 e.2.2) ∧ ent.length = 6) ?_ ?_
  · rcases tf p with hp | hp <;> rcases tf q with hq | hq <;> rw [hp, hq]
    all_goals
      have j0 : ∀ p, p ∈ M → p ∈ M := fun _ h => h
      refine OS.fresh rfl (e_new (fun _ => rfl) rfl) (fun _ => rfl) (fun k1 => ?_)
      refine OS.call noGo rfl (fun _ => rfl) ((row_ct (wss := [brk a, [wOr], brk b]) (SV.row (List.mem_cons_self ..) rfl) (ElW.c (hsx.sv.mono fun p hp => List.mem_cons_of_mem _ (j0 p hp)) pba (ElW.c (hsO.mono fun p hp => List.mem_cons_of_mem _ (j0 p hp)) (Nat.succ_pos _) (ElW.c (hsy.sv.mono fun p hp => List.mem_cons_of_mem _ (j0 p hp)) pbb (ElW.none)))) (by decide) (by rw [w1]; exact Nat.le_trans s1.1 (by decide))).mono ?_)
      rw [w1]
      rintro v' N1 g1
      obtain ⟨A1, c1, rfl⟩ := g1.wl.form
      have l1 := fun p hp => g1.mem p (List.mem_cons_of_mem _ hp)
      have j1 := fun p hp => l1 p (j0 p hp)
      refine yG ?_
      refine OS.fresh rfl (e_new (fun _ => rfl) rfl) (fun _ => rfl) (fun k2 => ?_)
      refine OS.call noGo rfl (fun _ => rfl) ((row_ct (wss := [brk a, [wAnd], brk b]) (SV.row (List.mem_cons_self ..) rfl) (ElW.c (hsx.sv.mono fun p hp => List.mem_cons_of_mem _ (j1 p hp)) pba (ElW.c (hsA.mono fun p hp => List.mem_cons_of_mem _ (j1 p hp)) (Nat.succ_pos _) (ElW.c (hsy.sv.mono fun p hp => List.mem_cons_of_mem _ (j1 p hp)) pbb (ElW.none)))) (by decide) (by rw [w2]; exact Nat.le_trans s2.1 (by decide))).mono ?_)
      rw [w2]
      rintro v' N2 g2
      obtain ⟨A2, c2, rfl⟩ := g2.wl.form
      have l2 := fun p hp => g2.mem p (List.mem_cons_of_mem _ hp)
      have j2 := fun p hp => l2 p (j1 p hp)
      refine yG ?_
      refine OS.fresh rfl (e_new (fun _ => rfl) rfl) (fun _ => rfl) (fun k3 => ?_)
      refine OS.call noGo rfl (fun _ => rfl) ((row_ct (wss := [brk a, [wOr], brk a]) (SV.row (List.mem_cons_self ..) rfl) (ElW.c (hsx.sv.mono fun p hp => List.mem_cons_of_mem _ (j2 p hp)) pba (ElW.c (hsO.mono fun p hp => List.mem_cons_of_mem _ (j2 p hp)) (Nat.succ_pos _) (ElW.c (hsx.sv.mono fun p hp => List.mem_cons_of_mem _ (j2 p hp)) pba (ElW.none)))) (by decide) (by rw [w3]; exact Nat.le_trans s3.1 (by decide))).mono ?_)
      rw [w3]
      rintro v' N3 g3
      obtain ⟨A3, c3, rfl⟩ := g3.wl.form
      have l3 := fun p hp => g3.mem p (List.mem_cons_of_mem _ hp)
      have j3 := fun p hp => l3 p (j2 p hp)
      refine yG ?_
      refine OS.fresh rfl (e_new (fun _ => rfl) rfl) (fun _ => rfl) (fun k4 => ?_)
      refine OS.call noGo rfl (fun _ => rfl) ((row_ct (wss := [brk a, [wAnd], brk b, [wOr], brk c]) (SV.row (List.mem_cons_self ..) rfl) (ElW.c (hsx.sv.mono fun p hp => List.mem_cons_of_mem _ (j3 p hp)) pba (ElW.c (hsA.mono fun p hp => List.mem_cons_of_mem _ (j3 p hp)) (Nat.succ_pos _) (ElW.c (hsy.sv.mono fun p hp => List.mem_cons_of_mem _ (j3 p hp)) pbb (ElW.c (hsO.mono fun p hp => List.mem_cons_of_mem _ (j3 p hp)) (Nat.succ_pos _) (ElW.c (hsz.sv.mono fun p hp => List.mem_cons_of_mem _ (j3 p hp)) pbc (ElW.none)))))) (by decide) (by rw [w4]; exact Nat.le_trans s4.1 (by decide))).mono ?_)
      rw [w4]
      rintro v' N4 g4
      obtain ⟨A4, c4, rfl⟩ := g4.wl.form
      have l4 := fun p hp => g4.mem p (List.mem_cons_of_mem _ hp)
      have j4 := fun p hp => l4 p (j3 p hp)
      refine yG ?_
      refine OS.fresh rfl (e_new (fun _ => rfl) rfl) (fun _ => rfl) (fun k5 => ?_)
      refine OS.call noGo rfl (fun _ => rfl) ((row_ct (wss := [brk a, [wOr], brk b, [wAnd], brk c]) (SV.row (List.mem_cons_self ..) rfl) (ElW.c (hsx.sv.mono fun p hp => List.mem_cons_of_mem _ (j4 p hp)) pba (ElW.c (hsO.mono fun p hp => List.mem_cons_of_mem _ (j4 p hp)) (Nat.succ_pos _) (ElW.c (hsy.sv.mono fun p hp => List.mem_cons_of_mem _ (j4 p hp)) pbb (ElW.c (hsA.mono fun p hp => List.mem_cons_of_mem _ (j4 p hp)) (Nat.succ_pos _) (ElW.c (hsz.sv.mono fun p hp => List.mem_cons_of_mem _ (j4 p hp)) pbc (ElW.none)))))) (by decide) (by rw [w5]; exact Nat.le_trans s5.1 (by decide))).mono ?_)
      rw [w5]
      rintro v' N5 g5
      obtain ⟨A5, c5, rfl⟩ := g5.wl.form
      have l5 := fun p hp => g5.mem p (List.mem_cons_of_mem _ hp)
      have j5 := fun p hp => l5 p (j4 p hp)
      refine yG ?_
      refine OS.fresh rfl (e_new (fun _ => rfl) rfl) (fun _ => rfl) (fun k6 => ?_)
      refine OS.call noGo rfl (fun _ => rfl) ((row_ct (wss := [[wNot], brk a, [wAnd], [wNot], brk b]) (SV.row (List.mem_cons_self ..) rfl) (ElW.c (hsN.mono fun p hp => List.mem_cons_of_mem _ (j5 p hp)) (Nat.succ_pos _) (ElW.c (hsx.sv.mono fun p hp => List.mem_cons_of_mem _ (j5 p hp)) pba (ElW.c (hsA.mono fun p hp => List.mem_cons_of_mem _ (j5 p hp)) (Nat.succ_pos _) (ElW.c (hsN.mono fun p hp => List.mem_cons_of_mem _ (j5 p hp)) (Nat.succ_pos _) (ElW.c (hsy.sv.mono fun p hp => List.mem_cons_of_mem _ (j5 p hp)) pbb (ElW.none)))))) (by decide) (by rw [w6]; exact Nat.le_trans s6.1 (by decide))).mono ?_)
      rw [w6]
      rintro v' N6 g6
      obtain ⟨A6, c6, rfl⟩ := g6.wl.form
      have l6 := fun p hp => g6.mem p (List.mem_cons_of_mem _ hp)
      have j6 := fun p hp => l6 p (j5 p hp)
      refine yG ?_
      refine OS.fresh rfl (e_new (fun _ => rfl) rfl) (fun _ => rfl) (fun rS => ?_)
      refine OS.gen fun R0 hR0 => ?_
      have hR : ∀ p, p ∈ N6 → p ∈ R0 := fun p hp => by rw [hR0]; exact List.mem_cons_of_mem _ hp
      obtain ⟨ent, hent⟩ : ∃ e : List (Value × List W × Bool), e = [(.slice A1 (brk a ++ wOr :: brk b).length c1, brk a ++ wOr :: brk b, p || q), (.slice A2 (brk a ++ wAnd :: brk b).length c2, brk a ++ wAnd :: brk b, p && q), (.slice A3 (brk a ++ wOr :: brk a).length c3, brk a ++ wOr :: brk a, p), (.slice A4 (brk a ++ wAnd :: (brk b ++ wOr :: brk c)).length c4, brk a ++ wAnd :: (brk b ++ wOr :: brk c), p && q || r), (.slice A5 (brk a ++ wOr :: (brk b ++ wAnd :: brk c)).length c5, brk a ++ wOr :: (brk b ++ wAnd :: brk c), p || q && r), (.slice A6 (wNot :: (brk a ++ wAnd :: wNot :: brk b)).length c6, wNot :: (brk a ++ wAnd :: wNot :: brk b), !p && !q)] := ⟨_, rfl⟩
      have hT : SV 2 R0 (.slice (some ⟨rS, 0, none⟩) 6 6) 6 (duo2 ent) := by rw [hR0, hent, hp, hq]; exact SV.row (List.mem_cons_self ..) (by rw [duo2_len]; rfl)
      have hE : ∀ e ∈ ent, Wd R0 e.1 e.2.1 ∧ Fit e.2.1 ∧ Hl e.2.1 e.2.2 := by
        rw [hent]
        intro e he
        simp only [List.mem_cons, List.not_mem_nil, or_false] at he
        rcases he with rfl | rfl | rfl | rfl | rfl | rfl
        · exact ⟨g1.wl.mono fun p hp => (hR p (l6 p (l5 p (l4 p (l3 p (l2 p hp)))))), s1.fit (by decide), f1⟩
        · exact ⟨g2.wl.mono fun p hp => (hR p (l6 p (l5 p (l4 p (l3 p hp))))), s2.fit (by decide), f2⟩
        · exact ⟨g3.wl.mono fun p hp => (hR p (l6 p (l5 p (l4 p hp)))), s3.fit (by decide), f3⟩
        · exact ⟨g4.wl.mono fun p hp => (hR p (l6 p (l5 p hp))), s4.fit (by decide), f4⟩
        · exact ⟨g5.wl.mono fun p hp => (hR p (l6 p hp)), s5.fit (by decide), f5⟩
        · exact ⟨g6.wl.mono fun p hp => (hR p hp), s6.fit (by decide), f6⟩
      have hel : ent.length = 6 := by rw [hent]; rfl
      have jR := fun p hp => hR p (j6 p hp)
      refine yG ?_
      exact ⟨rS, ent, rfl, jR, hT, hE, hel⟩
  · rintro a' R0 ⟨rS, ent, hkeep, jR, hT, hE, hel⟩
    show LSr _ _ _ _ _ _
    refine LS.junk _ hkeep ?_
    clear hkeep
    refine yG ?_
    refine LS.loopJ [7, 8, 9, 10, 11, 12, 13, 15, 17, 160, 161, 162] (fun q' a' L' => ∃ (k : Nat) (X : RL), q' = 6 - k ∧ k ≤ 6 ∧ L' = X ++ R0 ∧ a' = [.chan none, .chan none, .chan none, .chan none, .chan none, .chan none, .chan none, .slice Ax (brk a).length cx, .slice Ay (brk b).length cy, .slice Az (brk c).length cz, .slice (some ⟨rO, 0, none⟩) 1 1, .slice (some ⟨rA, 0, none⟩) 1 1, .slice (some ⟨rN, 0, none⟩) 1 1, .bool p, .chan none, .bool q, .chan none, .bool r, .chan none, .chan none, .chan none, .chan none, .chan none, .chan none, .chan none, .chan none, .chan none, .chan none, .chan none, .chan none, .chan none, .chan none, .chan none, .chan none, .chan none, .chan none, .chan none, .chan none, .chan none, .chan none, .chan none, .chan none, .chan none, .chan none, .chan none, .chan none, .chan none, .chan none, .chan none, .chan none, .chan none, .chan none, .chan none, .chan none, .chan none, .chan none, .chan none, .chan none, .chan none, .chan none, .chan none, .chan none, .chan none, .chan none, .chan none, .chan none, .chan none, .chan none, .chan none, .chan none, .chan none, .chan none, .chan none, .chan none, .chan none, .chan none, .chan none, .chan none, .chan none, .chan none, .chan none, .chan none, .chan none, .chan none, .chan none, .chan none, .chan none, .chan none, .chan none, .chan none, .chan none, .chan none, .chan none, .chan none, .chan none, .chan none, .chan none, .chan none, .chan none, .chan none, .chan none, .chan none, .chan none, .chan none, .chan none, .chan none, .chan none, .chan none, .chan none, .chan none, .chan none, .chan none, .chan none, .chan none, .chan none, .chan none, .chan none, .chan none, .chan none, .chan none, .chan none, .chan none, .chan none, .chan none, .chan none, .chan none, .chan none, .chan none, .chan none, .chan none, .chan none, .chan none, .chan none, .chan none, .chan none, .chan none, .chan none, .chan none, .chan none, .chan none, .chan none, .chan none, .chan none, .chan none, .chan none, .chan none, .chan none, .chan none, .chan none, .chan none, .chan none, .chan none, .chan none, .chan none, .chan none, .chan none, .chan none, .chan none, .chan none, .chan none, .slice (some ⟨rS, 0, none⟩) 6 6, .int .i64 6, .int .i64 (k : Nat), .chan none, .chan none, .chan none, .chan none, .chan none, .chan none, .chan none, .chan none, .chan none, .chan none, .chan none, .chan none, .chan none, .chan none, .chan none, .chan none, .chan none, .chan none, .chan none, .chan none, .chan none, .chan none, .chan none, .chan none, .chan none, .chan none, .chan none, .chan none, .chan none, .chan none, .chan none, .chan none, .chan none, .chan none, .chan none, .chan none, .chan none, .chan none, .chan none, .chan none, .chan none, .chan none, .chan none, .chan none, .chan none, .chan none, .chan none, .chan none, .chan none, .chan none, .chan none, .chan none, .chan none, .chan none, .chan none, .chan none, .chan none, .chan none, .chan none, .chan none, .chan none, .chan none, .chan none, .chan none, .chan none, .chan none, .chan none, .chan none, .chan none, .chan none, .chan none]) (n := 6) rfl ⟨0, [], rfl, by omega, rfl, rfl⟩ ?_
    rintro q' a' L' ⟨k, X, rfl, hk, rfl, rfl⟩
    have hTX := hT.mono (L' := X ++ R0) fun y hy => List.mem_append_right _ hy
    have jX : ∀ p, p ∈ M → p ∈ X ++ R0 := fun p hp => List.mem_append_right _ (jR p hp)
    refine yG ?_
    repeat refine LS.seq ?_
    refine LS.cond rfl (fun hc => ?_) (fun hc => ?_)
    · have hc := lt_of hc
      obtain ⟨⟨s, w, b'⟩, hx⟩ := ext_list (l := ent) (k := k) (by omega)
      obtain ⟨hw1, hw2, hw3⟩ := hE _ (List.mem_of_getElem? hx)
      have hcut := duo2_cut hx
      simp only at hw1 hw2 hw3 hcut
      obtain ⟨As, cs', rfl⟩ := hw1.form
      refine LS.skip ?_
      repeat refine LS.seq ?_
      refine LS.block ?_
      refine yG ?_
      refine OS.at (sz := 2) (j := k) hTX (by omega) rfl rfl rfl rfl rfl rfl (fun r0 o0 row0 cs0 m0 c0 _ k0 => ⟨_, rfl, ?_⟩)
      refine OS.read rfl (e_loadm m0 c0 rfl rfl (part_agg rfl rfl (k0 _ hcut))) rfl ?_
      refine OS.fresh rfl (e_new (fun _ => rfl) rfl) (fun _ => rfl) (fun rx => ?_)
      refine yG ?_
      refine OS.call noGo rfl (fun _ => rfl) ((lawHolds_ct (hw1.mono fun p hp => List.mem_cons_of_mem _ (List.mem_append_right _ hp)) hw2).mono ?_)
      rintro v' L3 ⟨rfl, hL⟩
      rw [hL]
      clear hL
      by_cases he : errN (parse w) = 0
      · rw [decide_eq_true he, hw3 he]
        have hbb : (!(b' == b')) = false := by simp
        refine yG ?_
        exact ⟨6 - (k + 1), by omega, k + 1, (rx, _) :: X, rfl, by omega, rfl, rfl⟩
      · rw [decide_eq_false he]
        refine yG ?_
        exact ⟨6 - (k + 1), by omega, k + 1, (rx, _) :: X, rfl, by omega, rfl, rfl⟩
    clear hc hTX hT hE
    refine LS.exit ?_
    refine yG ?_
    generalize X ++ R0 = Q at jX ⊢
    refine OS.fresh rfl (e_new (fun _ => rfl) rfl) (fun _ => rfl) (fun y1 => ?_)
    refine OS.call noGo rfl (fun _ => rfl) ((row_ct (wss := [brk a, [wOr], brk b]) (SV.row (List.mem_cons_self ..) rfl) (ElW.c (hsx.sv.mono fun p hp => List.mem_cons_of_mem _ (jX p hp)) pba (ElW.c (hsO.mono fun p hp => List.mem_cons_of_mem _ (jX p hp)) (Nat.succ_pos _) (ElW.c (hsy.sv.mono fun p hp => List.mem_cons_of_mem _ (jX p hp)) pbb (ElW.none)))) (by decide) (by rw [w1]; exact Nat.le_trans s1.1 (by decide))).mono ?_)
    rw [w1]
    rintro v' Q1 g1
    have m1 := fun p hp => g1.mem p (List.mem_cons_of_mem _ (jX p hp))
    refine ⟨_, rfl, ?_⟩
    refine OS.call noGo rfl (fun _ => rfl) ((round_ct g1.sv (Nat.le_trans s1.1 (by decide))).mono ?_)
    rintro v' Q2 g2
    obtain ⟨B2, d2, rfl⟩ := g2.wl.form
    have m2 := fun p hp => g2.mem p (m1 p hp)
    refine yG ?_
    refine OS.fresh rfl (e_new (fun _ => rfl) rfl) (fun _ => rfl) (fun y2 => ?_)
    refine OS.call noGo rfl (fun _ => rfl) ((row_ct (wss := [[wNot], brk (brk a ++ wOr :: brk b)]) (SV.row (List.mem_cons_self ..) rfl) (ElW.c (hsN.mono fun p hp => List.mem_cons_of_mem _ (m2 p hp)) (Nat.succ_pos _) (ElW.c g2.sv.cons (by rw [brk_len]; omega) ElW.none)) (by decide) (by rw [w7]; exact Nat.le_trans s7.1 (by decide))).mono ?_)
    rw [w7]
    rintro v' Q3 g3
    have m3 := fun p hp => g3.mem p (List.mem_cons_of_mem _ (m2 p hp))
    refine ⟨_, rfl, ?_⟩
    refine OS.call noGo rfl (fun _ => rfl) ((lawHolds_ct g3.wl (s7.fit (by decide))).mono ?_)
    rintro v' Q4 ⟨rfl, hL⟩
    rw [hL]
    clear hL g1 g2
    refine yG ?_
    refine OS.fresh rfl (e_new (fun _ => rfl) rfl) (fun _ => rfl) (fun y3 => ?_)
    refine OS.call noGo rfl (fun _ => rfl) ((row_ct (wss := [brk b, [wOr], brk c]) (SV.row (List.mem_cons_self ..) rfl) (ElW.c (hsy.sv.mono fun p hp => List.mem_cons_of_mem _ (m3 p hp)) pbb (ElW.c (hsO.mono fun p hp => List.mem_cons_of_mem _ (m3 p hp)) (Nat.succ_pos _) (ElW.c (hsz.sv.mono fun p hp => List.mem_cons_of_mem _ (m3 p hp)) pbc (ElW.none)))) (by decide) (by rw [wyOz]; exact Nat.le_trans s9.1 (by decide))).mono ?_)
    rw [wyOz]
    rintro v' Q4 g4
    have m4 := fun p hp => g4.mem p (List.mem_cons_of_mem _ (m3 p hp))
    refine ⟨_, rfl, ?_⟩
    refine OS.call noGo rfl (fun _ => rfl) ((round_ct g4.sv (Nat.le_trans s9.1 (by decide))).mono ?_)
    rintro v' Q5 g5
    obtain ⟨B5, d5, rfl⟩ := g5.wl.form
    have m5 := fun p hp => g5.mem p (m4 p hp)
    refine yG ?_
    refine OS.fresh rfl (e_new (fun _ => rfl) rfl) (fun _ => rfl) (fun y4 => ?_)
    refine OS.call noGo rfl (fun _ => rfl) ((row_ct (wss := [brk a, [wAnd], brk (brk b ++ wOr :: brk c)]) (SV.row (List.mem_cons_self ..) rfl) (ElW.c (hsx.sv.mono fun p hp => List.mem_cons_of_mem _ (m5 p hp)) pba (ElW.c (hsA.mono fun p hp => List.mem_cons_of_mem _ (m5 p hp)) (Nat.succ_pos _) (ElW.c g5.sv.cons (by rw [brk_len]; omega) ElW.none))) (by decide) (by rw [w8]; exact Nat.le_trans s8.1 (by decide))).mono ?_)
    rw [w8]
    rintro v' Q6 g6
    refine ⟨_, rfl, ?_⟩
    refine OS.call noGo rfl (fun _ => rfl) ((lawHolds_ct g6.wl (s8.fit (by decide))).mono ?_)
    rintro v' Q7 ⟨rfl, hL⟩
    rw [hL]
    clear hL g3 g4 g5
    by_cases e7 : errN (parse (wNot :: brk (brk a ++ wOr :: brk b))) = 0 <;> by_cases e8 : errN (parse (brk a ++ wAnd :: brk (brk b ++ wOr :: brk c))) = 0
    · rw [decide_eq_true e7, f7 e7, decide_eq_true e8, f8 e8]
      cases p
      · cases q
        all_goals
          refine yG ?_
          rfl
      · cases q
        · cases r
          all_goals
            refine yG ?_
            rfl
        · refine yG ?_
          rfl
    · rw [decide_eq_true e7, f7 e7, decide_eq_false e8]
      cases p
      · cases q
        all_goals
          refine yG ?_
          rfl
      · refine yG ?_
        rfl
    · rw [decide_eq_false e7, decide_eq_true e8, f8 e8]
      cases p
      · refine yG ?_
        rfl
      · cases q
        · cases r
          all_goals
            refine yG ?_
            rfl
        · refine yG ?_
          rfl
    · rw [decide_eq_false e7, decide_eq_false e8]
      refine yG ?_
      rfl
end Go.Proofs.Ytdacddkelagdnaa
