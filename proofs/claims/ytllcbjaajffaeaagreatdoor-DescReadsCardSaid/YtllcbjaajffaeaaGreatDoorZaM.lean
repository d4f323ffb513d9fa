import Derived.Test.YtllcbjaajffaeaaGreatDoorQkM
import Derived.Test.YtllcbjaajffaeaaGreatDoorQe
import Derived.Test.YtllcbjaajffaeaaGreatDoorRtM
namespace Go.Proofs.YtllcbjaajffaeaaGreatDoor
open Go.Am Go.Pd
set_option linter.unusedVariables false
set_option maxRecDepth 20000
set_option maxHeartbeats 8000000
attribute [local irreducible] OS LSr ODS CS YS
section
variable {F L : RL} {d : Dc} {v : Value}
theorem ParseB_ct {B : RL} {g : Gn} (hG : GL g F) (hG0 : GL g B) (hB : ∀ p, p ∈ B → p ∈ F) {s : W} (hs : s.length ≤ 1000000000000) : CS Tryz.prog 11 [str s] F fun v L' => match readL chk spD 1 ⟨[], []⟩ (segs s) with
    | .error (no, e) => v = .tuple #[.agg #[.slice none 0 0, .slice none 0 0], .int .i64 (no : Nat), .int .i64 (e : Nat)] ∧ Ends F L'
    | .ok d => ∃ u Z, v = .tuple #[u, .int .i64 0, .int .i64 0] ∧ L' = Z ++ F ∧ DocV (Z ++ B) u d := by
  refine CS.mk (fn := Tryz.f11) rfl rfl rfl rfl ?_
  refine yG ?_
  refine OS.fresh rfl (e_new (fun _ => rfl) rfl) (fun _ => rfl) (fun r2 => ?_)
  show OS _ _ _ _ ((r2, ARow.cells tD [.slice none 0 0, .slice none 0 0]) :: _) _
  refine yG ?_
  refine OS.call noGo rfl (fun _ => rfl) ((dread2_ct (B := B) (hG.mono fun p hp => List.mem_cons_of_mem _ hp) hG0 (fun p hp => List.mem_cons_of_mem _ (hB p hp)) hs).mono ?_)
  cases he : readL chk spD 1 ⟨[], []⟩ (segs s) with
  | error p =>
    obtain ⟨no, e⟩ := p
    rintro v L' ⟨rfl, Z, rfl⟩
    refine ⟨_, rfl, ?_⟩
    refine OS.sub (Sub.sums (A := (r2, .cells tD [.slice none 0 0, .slice none 0 0]) :: (Z ++ F)) fun f => by simp <;> omega) ?_
    refine yG ?_
    refine OS.fresh rfl (e_new (fun _ => rfl) rfl) (fun _ => rfl) (fun r5 => ?_)
    show OS _ _ _ _ ((r5, ARow.cells tD [.slice none 0 0, .slice none 0 0]) :: _) _
    refine yG ?_
    refine OS.call noGo rfl (fun _ => rfl) ((dTold_f (hG.mono fun p hp => by simp [hp])).mono ?_)
    rintro v L' ⟨rfl, rfl⟩
    refine ⟨_, rfl, ?_⟩
    refine yG ?_
    refine LS.ret ⟨_, res_c3 1 rfl rfl rfl rfl rfl rfl, ?_⟩
    exact ⟨rfl, by repeat (first | exact Ends.nil | apply Ends.cons | apply Ends.app)⟩
  | ok d =>
    rintro v L' ⟨u, Z, rfl, rfl, hd⟩
    obtain ⟨hv, sv, hcs, scs, rfl, h2, h3, h4, h5⟩ := hd
    have hd : DocV (Z ++ B) (.agg #[hv, sv]) d := ⟨hv, sv, hcs, scs, rfl, h2, h3, h4, h5⟩
    obtain ⟨A1, c1, rfl⟩ := h2.form
    obtain ⟨A2, c2, rfl⟩ := h4.form
    refine ⟨_, rfl, ?_⟩
    refine OS.sub (Sub.sums (A := (r2, .cells tD [.slice none 0 0, .slice none 0 0]) :: (Z ++ F)) fun f => by simp <;> omega) ?_
    refine yG ?_
    refine OS.fresh rfl (e_new (fun _ => rfl) rfl) (fun _ => rfl) (fun r5 => ?_)
    show OS _ _ _ _ ((r5, ARow.cells tD [.slice none 0 0, .slice none 0 0]) :: _) _
    refine yG ?_
    refine OS.call noGo rfl (fun _ => rfl) ((dTold_nil).mono ?_)
    rintro v L' ⟨rfl, rfl⟩
    refine ⟨_, rfl, ?_⟩
    refine yG ?_
    refine LS.ret ⟨_, res_c3 1 rfl rfl rfl rfl rfl rfl, ?_⟩
    exact ⟨_, (r5, _) :: (r2, _) :: Z, rfl, rfl, hd.mono fun p hp => List.mem_cons_of_mem _ (List.mem_cons_of_mem _ hp)⟩
def ParsedB (B F : RL) (R : Except (Nat × Nat) Dc) (v : Value) (L' : RL) : Prop := ∃ A c A' c' Z, v = .tuple #[.agg #[.slice A (pdD R).head.length c, .slice A' (pdD R).secs.length c'], .int .i64 (pdN R : Nat), .int .i64 (pdE R : Nat)] ∧ L' = Z ++ F ∧ DocV (Z ++ B) (.agg #[.slice A (pdD R).head.length c, .slice A' (pdD R).secs.length c']) (pdD R)
theorem parsedB_of {B : RL} {R : Except (Nat × Nat) Dc} {v : Value} {L' : RL} (h : match R with
    | .error (no, e) => v = .tuple #[.agg #[.slice none 0 0, .slice none 0 0], .int .i64 (no : Nat), .int .i64 (e : Nat)] ∧ Ends F L'
    | .ok d => ∃ u Z, v = .tuple #[u, .int .i64 0, .int .i64 0] ∧ L' = Z ++ F ∧ DocV (Z ++ B) u d) : ParsedB B F R v L' := by
  cases R with
  | error p =>
    obtain ⟨no, e⟩ := p
    obtain ⟨rfl, Z, rfl⟩ := h
    exact ⟨none, 0, none, 0, Z, rfl, rfl, docV_nil⟩
  | ok d =>
    obtain ⟨u, Z, rfl, rfl, hV⟩ := h
    obtain ⟨A, c, A', c', rfl⟩ := hV.form
    exact ⟨A, c, A', c', Z, rfl, rfl, hV⟩
theorem ParseB_all {B : RL} {g : Gn} (hG : GL g F) (hG0 : GL g B) (hB : ∀ p, p ∈ B → p ∈ F) {s : W} (hs : s.length ≤ 1000000000000) : CS Tryz.prog 11 [str s] F fun v L' => ParsedB B F (RD s) v L' := (ParseB_ct hG hG0 hB hs).mono fun _ _ h => parsedB_of h
theorem refParseB_all {s : W} (hs : s.length ≤ 1000000000000) : CS Tryz.prog 12 [str s] F fun v L' => ParsedB [] F (RD s) v L' := (refParse_ct hs).mono fun _ _ h => parsedB_of h
def NoCells (B : RL) : Prop := ∀ r e cs, (r, ARow.cells e cs) ∉ B
theorem setL_to : ∀ {L : RL} {i : Nat} {x : Nat × ARow}, i < L.length → setL L i x = some (L.set i x)
  | [], _, _, h => by simp at h
  | y :: L, 0, x, _ => rfl
  | y :: L, i + 1, x, h => by
    simp only [setL, setL_to (L := L) (i := i) (x := x) (by simpa using h)]; rfl
theorem ItsR.atW {M : RL} : ∀ {l : List It} {cs : List Value} {j : Nat} {x : It}, ItsR M l cs → l[j]? = some x → ∃ av, cut cs (j * 3) 3 = some [.int .i64 x.no, str x.word, av] ∧ Wd M av x.args
  | [], _, _, _, _, h => by simp at h
  | y :: r, cs, 0, x, ⟨a, cs', h1, h2, h3⟩, h => by
    simp at h; subst h
    refine ⟨a, ?_, h2⟩
    rw [h1]; cases cs' <;> rfl
  | y :: r, cs, j + 1, x, ⟨a, cs', h1, h2, h3⟩, h => by
    obtain ⟨av, h4, h5⟩ := ItsR.atW (j := j) h3 (by simpa using h)
    refine ⟨av, ?_, h5⟩
    rw [h1, show (j + 1) * 3 = j * 3 + 1 + 1 + 1 by omega]
    simpa [cut] using h4
theorem allS_set {cs : List Value} (h : allS cs) (k : Nat) (w : W) : allS (cs.set k (str w)) := fun c hc => by
  rcases List.mem_or_eq_of_mem_set hc with h' | rfl
  · exact h c h'
  · exact ⟨w, rfl⟩
theorem spoil_ct {B G Z : RL} {l : List It} {lv : Value} {cs : List Value} (hl : SV 3 (Z ++ B) lv l.length cs) (hI : ItsR (Z ++ B) l cs) (hB : ∀ p, p ∈ B → p ∈ G) (hN : NoCells B) (hn : l.length ≤ 1000000) (hm : ∀ x, x ∈ l → x.args.length ≤ 1000000) :
    CS Tryz.prog 15 [lv] (Z ++ G) fun v L' => ∃ Z', Ch Z Z' ∧ L' = Z' ++ G := by
  obtain ⟨lA, lc, rfl⟩ := hl.form
  have up : ∀ (Z' : RL) p, p ∈ Z' ++ B → p ∈ Z' ++ G := fun Z' p hp => by
    rcases List.mem_append.1 hp with h | h
    · exact List.mem_append_left _ h
    · exact List.mem_append_right _ (hB p h)
  refine CS.mk (fn := Tryz.f15) rfl rfl rfl rfl ?_
  refine yG ?_
  refine LS.loopJ [0, 2] (fun q a L' => ∃ (i : Nat) (Z' : RL), q = l.length - i ∧ i ≤ l.length ∧ Ch Z Z' ∧ L' = Z' ++ G ∧ a = [.slice lA l.length lc, .chan none, .int .i64 (i : Nat), .chan none, .chan none, .chan none, .chan none, .chan none, .chan none, .chan none, .chan none, .chan none, .chan none, .chan none, .chan none, .chan none, .chan none, .chan none, .chan none, .chan none, .chan none, .chan none, .chan none, .chan none, .chan none, .chan none, .chan none]) (n := l.length) rfl ⟨0, Z, rfl, by omega, .refl, rfl, rfl⟩ ?_
  rintro q a L' ⟨i, Z1, rfl, hi, hC1, rfl, rfl⟩
  by_cases hil : i < l.length
  · have hb : (!ileB ((l.length : Nat) : Int) (i : Nat)) = true := by rw [ileB_eq]; simp; omega
    have hxi : l[i]? = some l[i] := List.getElem?_eq_getElem hil
    have hxm := hm _ (List.getElem_mem hil)
    generalize l[i] = x at hxi hxm
    refine yG ?_
    refine LS.loopJ [0, 2, 3] (fun q a L' => ∃ (k : Nat) (Z' : RL), q = x.args.length - k ∧ k ≤ x.args.length ∧ Ch Z Z' ∧ L' = Z' ++ G ∧ a = [.slice lA l.length lc, .chan none, .int .i64 (i : Nat), .int .i64 (k : Nat), .chan none, .chan none, .chan none, .chan none, .chan none, .chan none, .chan none, .chan none, .chan none, .chan none, .chan none, .chan none, .chan none, .chan none, .chan none, .chan none, .chan none, .chan none, .chan none, .chan none, .chan none, .chan none, .chan none]) (n := x.args.length) rfl ⟨0, Z1, rfl, by omega, hC1, rfl, rfl⟩ ?_
    clear hC1
    rintro q a L' ⟨k, Z2, rfl, hk, hC2, rfl, rfl⟩
    obtain ⟨l', hlk, hl', hI'⟩ := ItsR.chs hC2 hl hI
    have hll := hlk.len
    have hyi : ∃ y, l'[i]? = some y ∧ y.args.length = x.args.length := by
      have h1 := congrArg (fun t => t[i]?) hlk
      simp only [List.getElem?_map, hxi, Option.map_some] at h1
      obtain ⟨y, h2, h3⟩ := Option.map_eq_some_iff.1 h1
      exact ⟨y, h2, h3⟩
    obtain ⟨y, hyi, hyl⟩ := hyi
    obtain ⟨a, hcut, hWa⟩ := hI'.atW hyi
    have hlG : SV 3 (Z2 ++ G) (.slice lA l.length lc) l.length cs := hl'.up (up Z2)
    have haG := (hWa.mono (up Z2)).sv
    obtain ⟨aA, ac, rfl⟩ := hWa.form
    refine yG ?_
    refine OS.at (j := i) hlG hil rfl rfl rfl rfl rfl rfl (fun r0 o0 row0 cs0 m0 c0 g0 k0 => ?_)
    refine ⟨_, rfl, ?_⟩
    refine yG ?_
    refine OS.read rfl (e_loadm m0 c0 rfl rfl (part_one rfl (g0 2 _ (by decide) (cut_get hcut (j := 2) rfl)))) rfl ?_
    by_cases hkl : k < x.args.length
    · have hb2 : (!ileB ((y.args.length : Nat) : Int) (k : Nat)) = true := by rw [ileB_eq]; simp; omega
      refine yG ?_
      refine OS.at (j := i) hlG hil rfl rfl rfl rfl rfl rfl (fun r1 o1 row1 cs1 m1 c1 g1 k1 => ?_)
      refine ⟨_, rfl, ?_⟩
      refine yG ?_
      refine OS.read rfl (e_loadm m1 c1 rfl rfl (part_one rfl (g1 2 _ (by decide) (cut_get hcut (j := 2) rfl)))) rfl ?_
      refine yG ?_
      rcases hWa with ⟨_, h0, _⟩ | ⟨r, off, cap, row, cs₀, he, hmem, hrd, hcut2, hcase⟩
      · omega
      obtain ⟨rfl, rfl⟩ : aA = some ⟨r, off, none⟩ ∧ ac = cap := by simpa using he
      rcases hcase with ⟨rfl, rfl, hall⟩ | ⟨h0, _⟩
      rotate_left
      · omega
      have hmZ : (r, ARow.cells 9 cs₀) ∈ Z2 := by
        rcases List.mem_append.1 hmem with h | h
        · exact h
        · exact absurd h (hN _ _ _)
      obtain ⟨p, hp⟩ := List.getElem?_of_mem hmZ
      have hpl := (List.getElem?_eq_some_iff.1 hp).1
      have hfit := (cut_eq hcut2).2.1
      refine OS.pure rfl (e_index (j := k) (sz := 1) rfl rfl rfl rfl rfl (by omega)) rfl ?_
      refine OS.write rfl (e_store p (n := 1) (cs' := cs₀.set (off + k * 1) (str [115, 112, 111, 105, 108, 116])) rfl rfl rfl (by rw [List.getElem?_append_left hpl]; exact hp) rfl rfl (lay_one (by omega)) (setL_to (by simp; omega))) rfl ?_
      rw [List.set_append_left _ _ hpl]
      refine yG ?_
      exact ⟨x.args.length - (k + 1), by omega, k + 1, _, rfl, by omega, .step hC2 hp hall (allS_set hall _ _) (by simp), rfl, rfl⟩
    · have hb2 : (!ileB ((y.args.length : Nat) : Int) (k : Nat)) = false := by rw [ileB_eq]; simp; omega
      refine yG ?_
      refine LS.exit ?_
      refine yG ?_
      exact ⟨l.length - (i + 1), by omega, i + 1, Z2, rfl, by omega, hC2, rfl, rfl⟩
  · have hb : (!ileB ((l.length : Nat) : Int) (i : Nat)) = false := by rw [ileB_eq]; simp; omega
    refine yG ?_
    refine LS.exit ?_
    refine ⟨_, fun _ _ => rfl, ?_⟩
    exact ⟨Z1, hC1, rfl⟩
end
end Go.Proofs.YtllcbjaajffaeaaGreatDoor
namespace Go.Proofs.YtllcbjaajffaeaaGreatDoor
open Go.Am Go.Pd
set_option linter.unusedVariables false
set_option linter.unusedSimpArgs false
set_option maxRecDepth 20000
set_option maxHeartbeats 8000000
attribute [local irreducible] OS LSr ODS CS YS
theorem SecsR.atR {M : RL} : ∀ {l : List Se} {cs : List Value} {j : Nat} {y : Se}, SecsR M l cs → l[j]? = some y → ∃ iv ics, cut cs (j * 4) 4 = some (secC y.no y.kind y.name iv) ∧ SV 3 M iv y.items.length ics ∧ ItsR M y.items ics
  | [], _, _, _, _, h => by simp at h
  | z :: r, cs, 0, y, ⟨iv, ics, cs', h1, h2, h3⟩, h => by
    simp at h; subst h
    refine ⟨iv, ics, ?_, h2⟩
    rw [h1]; cases cs' <;> rfl
  | z :: r, cs, j + 1, y, ⟨iv, ics, cs', h1, h2, h3⟩, h => by
    obtain ⟨jv, jcs, h4, h5⟩ := SecsR.atR (j := j) h3 (by simpa using h)
    refine ⟨jv, jcs, ?_, h5⟩
    rw [h1, show (j + 1) * 4 = j * 4 + 1 + 1 + 1 + 1 by omega]
    simpa [cut] using h4
theorem likeS_at {l l' : List Se} (h : LikeS l l') {i : Nat} {y : Se} (hi : l[i]? = some y) : ∃ y', l'[i]? = some y' ∧ y'.items.length = y.items.length ∧ ∀ x', x' ∈ y'.items → ∃ x, x ∈ y.items ∧ x.args.length = x'.args.length := by
  have h1 := congrArg (fun t => t[i]?) h
  simp only [List.getElem?_map, hi, Option.map_some] at h1
  obtain ⟨y', h2, h3⟩ := Option.map_eq_some_iff.1 h1
  refine ⟨y', h2, by have := congrArg List.length h3; simpa using this, fun x' hx' => ?_⟩
  have : x'.args.length ∈ y.items.map (·.args.length) := by rw [← h3]; exact List.mem_map_of_mem hx'
  obtain ⟨x, h4, h5⟩ := List.mem_map.1 this
  exact ⟨x, h4, h5⟩
section
variable {F : RL}
noncomputable def baseG (g : Gn) : RL := [(g.gd, ARow.glob DB []), (g.ge, ARow.glob 0 [.iface RT (.agg #[wh 90])]), (g.gs, ARow.glob 4 [g.es]), (g.gr, ARow.glob 5 [g.er]), (g.gp, ARow.glob 6 pow10V)]
theorem baseG_gl {g : Gn} (h : GL g F) : GL g (baseG g) := ⟨by simp [baseG], by simp [baseG], by simp [baseG], by simp [baseG], by simp [baseG], h.hs, h.hr⟩
theorem baseG_in {g : Gn} (h : GL g F) : ∀ p, p ∈ baseG g → p ∈ F := by
  intro p hp
  simp only [baseG, List.mem_cons, List.not_mem_nil, or_false] at hp
  rcases hp with rfl | rfl | rfl | rfl | rfl
  · exact h.d
  · exact h.e
  · exact h.s
  · exact h.r
  · exact h.p
theorem baseG_no (g : Gn) : NoCells (baseG g) := by
  intro r e cs h
  simp [baseG] at h
theorem readsLaw_ct {g : Gn} (hG : GL g F) {text : W} (hs : text.length ≤ 9000000000000000) : CS Tryz.prog 3 [str text] F fun u _ => u = .bool true := by
  refine CS.mk (fn := Tryz.f3) rfl rfl rfl rfl ?_
  by_cases h1 : 10000 < text.length
  · have q1 : (!ileB ((text.length : Nat) : Int) 10000) = true := by rw [ileB_eq]; simp; omega
    refine yG ?_
    refine OS.call noGo rfl (fun _ => rfl) ((awake_ct hG).mono ?_)
    rintro v L' ⟨rfl, _⟩
    refine ⟨_, rfl, ?_⟩
    refine yG ?_
    rfl
  have q1 : (!ileB ((text.length : Nat) : Int) 10000) = false := by rw [ileB_eq]; simp; omega
  have ht : text.length ≤ 1000000000000 := by omega
  have hf := rd_fit text
  refine yG ?_
  refine OS.call noGo rfl (fun _ => rfl) ((ParseB_all hG (baseG_gl hG) (baseG_in hG) ht).mono ?_)
  rintro u L2 ⟨A1, c1, B1, d1, Z1, rfl, rfl, hV1⟩
  refine ⟨_, rfl, ?_⟩
  refine yG ?_
  refine OS.fresh rfl (e_new (fun _ => rfl) rfl) (fun _ => rfl) (fun r3 => ?_)
  show OS _ _ _ _ ((r3, ARow.cells tD [.slice none 0 0, .slice none 0 0]) :: _) _
  refine yG ?_
  refine OS.call noGo rfl (fun _ => rfl) ((refParseB_all ht).mono ?_)
  rintro u L2 ⟨A2, c2, B2, d2, Z2, rfl, rfl, hV2⟩
  rw [List.append_nil] at hV2
  refine ⟨_, rfl, ?_⟩
  refine yG ?_
  refine OS.fresh rfl (e_new (fun _ => rfl) rfl) (fun _ => rfl) (fun r6 => ?_)
  show OS _ _ _ _ ((r6, ARow.cells tDd [.slice none 0 0, .slice none 0 0]) :: _) _
  refine yG ?_
  generalize hR : RD text = R at *
  generalize hD : pdD R = D at *
  have qe : (!ieqB ((pdE R : Nat) : Int) ((pdE R : Nat) : Int)) = false := by rw [ieqB_eq]; simp
  have qn : (!ieqB ((pdN R : Nat) : Int) ((pdN R : Nat) : Int)) = false := by rw [ieqB_eq]; simp
  repeat refine LS.seq ?_
  refine LS.drawn noGo mixed [(0, false), (1, false), (2, false), (3, false), (4, false), (5, false), (6, false), (7, false), (8, false), (9, false), (11, false), (10, true), (12, true), (13, false), (14, false)] rfl rfl (by kernel_rfl) ?_
  refine yG ?_
  refine ODS.read rfl rfl (e_loadm (r := r3) (List.mem_cons_of_mem _ (List.mem_append_right _ (List.mem_cons_self ..))) rfl rfl rfl rfl) rfl ?_
  refine yG ?_
  generalize hB : baseG g = B at hV1
  have hBF : ∀ p, p ∈ B → p ∈ F := by rw [← hB]; exact baseG_in hG
  have hNB : NoCells B := by rw [← hB]; exact baseG_no g
  clear hB
  refine ODS.call rfl rfl (fun _ => rfl) ((back_ct hV1.a (fun p hp => by rcases List.mem_append.1 hp with h | h <;> simp [h, hBF]) (fit_k hf).1).mono ?_)
  rintro u L2 ⟨Z3, rfl, hA3⟩
  obtain ⟨A3, c3, B3, d3, rfl⟩ := hA3.form
  refine ⟨_, rfl, ?_, ?_⟩
  · exact Keep.cons rfl (e_loadm (r := r6) (List.mem_append_right _ (List.mem_cons_self ..)) rfl rfl rfl rfl) (Keep.gone rfl Keep.nil)
  refine ODS.call rfl rfl (fun _ => rfl) ((Same12_ct true hA3 (fun p hp => hp) hV2.a (fun p hp => by simp [hp]) (fit_k hf).2).mono ?_)
  rintro v L2 ⟨rfl, rfl⟩
  refine ⟨_, rfl, ?_, ?_⟩
  · exact Keep.gone rfl (Keep.gone rfl Keep.nil)
  rw [Go.Pd.sameD_self]
  clear hA3
  obtain ⟨hv, sv, hcs, scs, he, hh, hI, hS, hSR⟩ := hV1
  obtain ⟨rfl, rfl⟩ : hv = .slice A1 D.head.length c1 ∧ sv = .slice B1 D.secs.length d1 := by simpa using he.symm
  refine ODS.sub (Sub.sums2 Z3 (A := Z1 ++ ((r3, ARow.cells tD [.slice A1 D.head.length c1, .slice B1 D.secs.length d1]) :: (r6, ARow.cells tDd [.slice A2 D.head.length c2, .slice B2 D.secs.length d2]) :: (Z2 ++ F))) fun f => by simp <;> omega) ?_
  generalize hGG : (r3, ARow.cells tD [.slice A1 D.head.length c1, .slice B1 D.secs.length d1]) :: (r6, ARow.cells tDd [.slice A2 D.head.length c2, .slice B2 D.secs.length d2]) :: (Z2 ++ F) = G
  have m3 : (r3, ARow.cells tD [.slice A1 D.head.length c1, .slice B1 D.secs.length d1]) ∈ G := by rw [← hGG]; simp
  have m6 : (r6, ARow.cells tDd [.slice A2 D.head.length c2, .slice B2 D.secs.length d2]) ∈ G := by rw [← hGG]; simp
  have hFG : ∀ p, p ∈ F → p ∈ G := fun p hp => by rw [← hGG]; simp [hp]
  have h2G : ∀ p, p ∈ Z2 → p ∈ G := fun p hp => by rw [← hGG]; simp [hp]
  clear hGG
  have hBG : ∀ p, p ∈ B → p ∈ G := fun p hp => hFG p (hBF p hp)
  have hh40 := hf.ok.head
  have hs48 : D.secs.length ≤ 48 := by have h1 := hf.ok.secs; have h2 := hf.ok.c1; have h3 := hf.ok.c2; omega
  refine yG ?_
  refine OS.read rfl (e_loadm (List.mem_append_right _ m3) rfl rfl rfl (part_one rfl rfl)) rfl ?_
  refine yG ?_
  refine OS.call noGo rfl (fun _ => rfl) ((spoil_ct hh hI hBG hNB (by omega) (fun x hx => by have := (hf.head x hx).2.1; omega)).mono ?_)
  rintro v L2 ⟨Z4, hC4, rfl⟩
  refine ⟨_, rfl, ?_⟩
  refine yG ?_
  refine LS.loopJ [0, 3, 6, 9] (fun q a L' => ∃ (i : Nat) (Z : RL), q = D.secs.length - i ∧ i ≤ D.secs.length ∧ Ch Z1 Z ∧ L' = Z ++ G ∧ a = [str text, .chan none, .chan none, ptr r3, .chan none, .chan none, ptr r6, .chan none, .chan none, .int .i64 (i : Nat), .chan none, .chan none, .chan none, .chan none, .chan none, .chan none, .chan none, .chan none, .chan none, .chan none, .chan none, .chan none, .chan none, .chan none, .chan none, .chan none, .chan none, .chan none, .chan none, .chan none, .chan none, .chan none, .chan none, .chan none, .chan none, .chan none, .chan none, .chan none, .chan none, .chan none, .chan none, .chan none, .chan none, .chan none, .chan none, .chan none, .chan none, .chan none, .chan none, .chan none, .chan none, .chan none, .chan none, .chan none, .chan none, .chan none, .chan none, .chan none, .chan none, .chan none, .chan none, .chan none, .chan none, .chan none, .chan none, .chan none, .chan none, .chan none, .chan none, .chan none, .chan none, .chan none, .chan none, .chan none]) (n := D.secs.length) rfl ⟨0, Z4, rfl, by omega, hC4, rfl, rfl⟩ ?_
  rintro q a L' ⟨i, Z5, rfl, hi, hC5, rfl, rfl⟩
  by_cases hil : i < D.secs.length
  · have hb : (!ileB ((D.secs.length : Nat) : Int) (i : Nat)) = true := by rw [ileB_eq]; simp; omega
    have hyi : D.secs[i]? = some D.secs[i] := List.getElem?_eq_getElem hil
    have hyk := hf.ok.items _ (List.getElem_mem hil)
    have hyf := (hf.secs _ (List.getElem_mem hil)).2
    generalize D.secs[i] = y at hyi hyk hyf
    obtain ⟨l', hlk, hS', hSR'⟩ := SecsR.chs hC5 hS hSR
    obtain ⟨y', hy', hyl, hya⟩ := likeS_at hlk hyi
    obtain ⟨iv, ics, hcut, hiv, hIR⟩ := hSR'.atR hy'
    obtain ⟨iA, ic, rfl⟩ := hiv.form
    have hSG : SV 4 (Z5 ++ G) (.slice B1 D.secs.length d1) D.secs.length scs := hS'.up fun p hp => by
      rcases List.mem_append.1 hp with h | h
      · simp [h]
      · simp [hBG p h]
    refine yG ?_
    refine OS.read rfl (e_loadm (List.mem_append_right _ m3) rfl rfl rfl (part_one rfl rfl)) rfl ?_
    refine yG ?_
    refine OS.read rfl (e_loadm (List.mem_append_right _ m3) rfl rfl rfl (part_one rfl rfl)) rfl ?_
    refine yG ?_
    refine OS.at (j := i) hSG hil rfl rfl rfl rfl rfl rfl (fun r0 o0 row0 cs0 m0 c0 g0 k0 => ?_)
    refine ⟨_, rfl, ?_⟩
    refine yG ?_
    refine OS.read rfl (e_loadm m0 c0 rfl rfl (part_one rfl (g0 3 _ (by decide) (cut_get hcut (j := 3) rfl)))) rfl ?_
    refine yG ?_
    refine OS.call noGo rfl (fun _ => rfl) ((spoil_ct hiv hIR hBG hNB (by omega) (fun x hx => by obtain ⟨z, hz, hzl⟩ := hya x hx; have := (hyf z hz).2.1; omega)).mono ?_)
    rintro v L2 ⟨Z6, hC6, rfl⟩
    refine ⟨_, rfl, ?_⟩
    refine yG ?_
    exact ⟨D.secs.length - (i + 1), by omega, i + 1, Z6, rfl, by omega, hC5.trans hC6, rfl, rfl⟩
  have hb : (!ileB ((D.secs.length : Nat) : Int) (i : Nat)) = false := by rw [ileB_eq]; simp; omega
  have hG5 : GL g (Z5 ++ G) := hG.mono fun p hp => List.mem_append_right _ (hFG p hp)
  have hV5 : DocV (Z5 ++ G) (.agg #[.slice A2 D.head.length c2, .slice B2 D.secs.length d2]) D := hV2.mono fun p hp => List.mem_append_right _ (h2G p hp)
  have m65 : (r6, ARow.cells tDd [.slice A2 D.head.length c2, .slice B2 D.secs.length d2]) ∈ Z5 ++ G := List.mem_append_right _ m6
  refine yG ?_
  refine OS.read rfl (e_loadm (List.mem_append_right _ m3) rfl rfl rfl (part_one rfl rfl)) rfl ?_
  refine yG ?_
  refine LS.exit ?_
  generalize Z5 ++ G = K at hG5 hV5 m65
  refine yG ?_
  refine OS.call noGo rfl (fun _ => rfl) ((Parse_all hG5 ht).mono ?_)
  rw [hR]
  rintro u L2 ⟨A7, c7, B7, d7, Z7, rfl, rfl, hV7⟩
  rw [hD] at hV7 ⊢
  refine ⟨_, rfl, ?_⟩
  refine yG ?_
  refine OS.fresh rfl (e_new (fun _ => rfl) rfl) (fun _ => rfl) (fun r10 => ?_)
  show OS _ _ _ _ ((r10, ARow.cells tD [.slice none 0 0, .slice none 0 0]) :: _) _
  refine yG ?_
  repeat refine LS.seq ?_
  refine LS.drawn noGo mixed [(0, false), (2, false), (1, true), (3, true), (4, false), (5, true), (6, false), (7, false)] rfl rfl (by kernel_rfl) ?_
  refine yG ?_
  refine ODS.read rfl rfl (e_loadm (r := r6) (List.mem_cons_of_mem _ (List.mem_append_right _ m65)) rfl rfl rfl rfl) rfl ?_
  refine ODS.call rfl rfl (fun _ => rfl) ((back_ct hV7.a (fun p hp => List.mem_cons_of_mem _ hp) (fit_k hf).1).mono ?_)
  rintro u L2 ⟨Z8, rfl, hA8⟩
  obtain ⟨A8, c8, B8, d8, rfl⟩ := hA8.form
  refine ⟨_, rfl, ?_, ?_⟩
  · exact Keep.cons rfl (e_loadm (r := r6) (List.mem_append_right _ (List.mem_cons_of_mem _ (List.mem_append_right _ m65))) rfl rfl rfl rfl) (Keep.gone rfl Keep.nil)
  refine ODS.call rfl rfl (fun _ => rfl) ((Same12_ct true hA8 (fun p hp => hp) hV5.a (fun p hp => by simp [hp]) (fit_k hf).2).mono ?_)
  rintro v L2 ⟨rfl, rfl⟩
  refine ⟨_, rfl, ?_, ?_⟩
  · exact Keep.gone rfl (Keep.gone rfl Keep.nil)
  rw [Go.Pd.sameD_self]
  refine yG ?_
  refine ODS.call rfl rfl (fun _ => rfl) ((awake_ct (hG5.mono fun p hp => by simp [hp])).mono ?_)
  rintro v L2 ⟨rfl, _⟩
  refine ⟨_, rfl, ?_, ?_⟩
  · exact Keep.gone rfl (Keep.gone rfl Keep.nil)
  refine yG ?_
  rfl
end
end Go.Proofs.YtllcbjaajffaeaaGreatDoor
