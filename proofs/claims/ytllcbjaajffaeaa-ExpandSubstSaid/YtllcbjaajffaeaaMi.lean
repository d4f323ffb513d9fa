/- Layer 14: a counter is made; rows one by one. -/
import Derived.Test.YtllcbjaajffaeaaMh
namespace Go.Mx
theorem dig_zero : ∀ ns : List Nat, dig ns 0 = List.replicate ns.length 0
  | [] => rfl
  | n :: ns => by simp [dig, dig_zero ns, List.replicate_succ]
theorem pick_at : ∀ {l : List (List B)} {bs : List Nat} {i a : Nat} {vs : List B}, l[i]? = some vs → bs[i]? = some a → (pick l bs)[i]? = some (vs.getD a [])
  | [], _, _, _, _, h, _ => by simp at h
  | _ :: _, [], _, _, _, _, h => by simp at h
  | v :: l, b :: bs, 0, a, vs, h, h2 => by
    simp at h h2
    subst h; subst h2
    simp [pick]
  | v :: l, b :: bs, i + 1, a, vs, h, h2 => by
    simp only [pick, List.getElem?_cons_succ]
    exact pick_at (by simpa using h) (by simpa using h2)
theorem grow_set {P : List B} {k n : Nat} {w : B} (hP : P.length = n) (hk : P[k]? = some w) : (P.take k ++ List.replicate (n - k) []).set k w = P.take (k + 1) ++ List.replicate (n - (k + 1)) [] := by
  have hl := (List.getElem?_eq_some_iff.1 hk).1
  rw [List.set_append_right _ _ (by simp; omega), List.take_add_one, hk, List.length_take, Nat.min_eq_left (by omega), Nat.sub_self, show n - k = (n - (k + 1)) + 1 by omega, List.replicate_succ]
  simp
end Go.Mx
namespace Go.Proofs.Ytllcbjaajffaeaa
open Go.Am Go.Mx
set_option linter.unusedVariables false
set_option linter.unusedSimpArgs false
set_option maxRecDepth 20000
set_option maxHeartbeats 4000000
attribute [local irreducible] OS LSr ODS CS YS OGS OT
theorem mkInts : makeT Try.prog 100 = some (3, 1, 8, [.int .i64 0]) := by kernel_rfl
theorem mkStrs : makeT Try.prog 32 = some (9, 1, 16, [.string ⟨⟨[]⟩⟩]) := by kernel_rfl
theorem newCounter_ct {F : RL} {n : Nat} {lv : Value} {l : List Ax} {cs : List Value} (hv : SV 2 F lv n cs) (hx : AxR F l cs) (hl : l.length = n) (hn : n ≤ 1000000) (hpos : ∀ x, x ∈ l → 0 < x.2.length) :
    CS Try.prog 46 [lv] F fun v L' => ∃ rc ra rr, v = ptr rc ∧ L' = ctr rc ra rr lv n (dig (nsA l) 0) (Mx.rowAt (vlsA l) 0) F := by
  have hd0 : dig (nsA l) 0 = List.replicate n 0 := by rw [dig_zero, ns_len, hl]
  have hlens : lens (vlsA l) = nsA l := by simp [lens, vlsA, nsA]
  have hr0 : Mx.rowAt (vlsA l) 0 = pick (vlsA l) (List.replicate n 0) := by rw [Mx.rowAt, hlens, hd0]
  rw [hd0, hr0]
  have hPl : (pick (vlsA l) (List.replicate n 0)).length = n := by rw [pick_len _ _ (by simp [vlsA, hl])]; simp [vlsA, hl]
  generalize hP : pick (vlsA l) (List.replicate n 0) = P at hPl
  have hone : isJ lv = false ∧ lv.cells.toList = [lv] := hv.one
  have hform : ∃ A c, lv = .slice A n c := hv.form
  obtain ⟨A, c, rfl⟩ := hform
  have hI : repL [.int .i64 0] n = ints (List.replicate n 0) := repL_ints n
  have hS : repL [.string ⟨⟨[]⟩⟩] n = strs (List.replicate n []) := repL_strs n
  have hC : ∀ rc ra rr, ctr rc ra rr (.slice A n c) n (List.replicate n 0) (List.replicate n []) F = (rc, .cells 102 [.slice A n c, .slice (some ⟨ra, 0, none⟩) n n, .slice (some ⟨rr, 0, none⟩) n n]) :: (ra, .cells 3 (repL [.int .i64 0] n)) :: (rr, .cells 9 (repL [.string ⟨⟨[]⟩⟩] n)) :: F := fun rc ra rr => by simp only [ctr, hI, hS]
  refine CS.mk (fn := Try.f46) rfl rfl rfl rfl ?_
  refine yG ?_
  refine LS.mid [0, 3] (fun a L' => ∃ rc ra rr, L' = ctr rc ra rr (.slice A n c) n (List.replicate n 0) (List.replicate n []) F ∧ a = [.slice A n c, .chan none, .chan none, ptr rc, .chan none, .chan none, .chan none, .chan none, .chan none, .chan none, .chan none, .chan none, .chan none, .chan none, .chan none, .chan none, .chan none, .chan none, .chan none, .chan none, .chan none, .chan none, .chan none, .chan none]) ?_ ?_
  · repeat refine LS.seq ?_
    refine LS.forked noGo mixed 10 rfl rfl (by kernel_rfl) ?_
    refine OGS.pure 0 (by kernel_rfl) rfl rfl (fun _ => rfl) rfl ?_
    refine OGS.pure 1 (by kernel_rfl) rfl rfl (fun _ => rfl) rfl ?_
    refine OGS.pure 2 (by kernel_rfl) rfl rfl (fun _ => rfl) rfl ?_
    refine OGS.pure 4 (by kernel_rfl) rfl rfl (fun _ => rfl) rfl ?_
    refine OGS.pure 5 (by kernel_rfl) rfl rfl (fun _ => rfl) rfl ?_
    refine OGS.turn2 3 6 (by kernel_rfl) (by kernel_rfl) ?_ ?_
    · refine OT.fresh rfl rfl (e_make (l := n) (c := n) rfl rfl rfl mkInts (Nat.le_refl _) (by omega) (by omega)) (fun _ => rfl) (fun _ => Keep.nil) (fun ra => ?_)
      refine OGS.turn1 6 (by kernel_rfl) (by kernel_rfl) (OT.fresh rfl rfl (e_make (l := n) (c := n) rfl rfl rfl mkStrs (Nat.le_refl _) (by omega) (by omega)) (fun _ => rfl) (fun _ => Keep.nil) (fun rr => ?_))
      refine OGS.pure 7 (by kernel_rfl) rfl rfl (fun _ => rfl) rfl ?_
      refine OGS.turn1 8 (by kernel_rfl) (by kernel_rfl) (OT.fresh rfl rfl (e_new (fun _ => rfl) rfl) (fun _ => rfl) (fun _ => Keep.nil) (fun rc => ?_))
      refine OGS.pure 9 (by kernel_rfl) rfl rfl (fun _ => rfl) rfl ?_
      refine OGS.sub (Sub.pulls [2, 1] rfl) ?_
      refine OGS.nil (by kernel_rfl) ?_
      exact ⟨rc, ra, rr, (hC rc ra rr).symm, rfl⟩
    · refine OT.fresh rfl rfl (e_make (l := n) (c := n) rfl rfl rfl mkStrs (Nat.le_refl _) (by omega) (by omega)) (fun _ => rfl) (fun _ => Keep.nil) (fun rr => ?_)
      refine OGS.turn1 3 (by kernel_rfl) (by kernel_rfl) (OT.fresh rfl rfl (e_make (l := n) (c := n) rfl rfl rfl mkInts (Nat.le_refl _) (by omega) (by omega)) (fun _ => rfl) (fun _ => Keep.nil) (fun ra => ?_))
      refine OGS.pure 7 (by kernel_rfl) rfl rfl (fun _ => rfl) rfl ?_
      refine OGS.turn1 8 (by kernel_rfl) (by kernel_rfl) (OT.fresh rfl rfl (e_new (fun _ => rfl) rfl) (fun _ => rfl) (fun _ => Keep.nil) (fun rc => ?_))
      refine OGS.pure 9 (by kernel_rfl) rfl rfl (fun _ => rfl) rfl ?_
      refine OGS.nil (by kernel_rfl) ?_
      exact ⟨rc, ra, rr, (hC rc ra rr).symm, rfl⟩
  rintro a L' ⟨rc, ra, rr, rfl, rfl⟩
  refine yG ?_
  refine LS.loopJ [0, 3, 15, 16] (fun q a L' => ∃ k : Nat, q = n - k ∧ k ≤ n ∧ L' = ctr rc ra rr (.slice A n c) n (List.replicate n 0) (P.take k ++ List.replicate (n - k) []) F ∧ a = [.slice A n c, .chan none, .chan none, ptr rc, .chan none, .chan none, .chan none, .chan none, .chan none, .chan none, .chan none, .chan none, .chan none, .chan none, .chan none, .int .i64 (n : Nat), .int .i64 (k : Nat), .chan none, .chan none, .chan none, .chan none, .chan none, .chan none, .chan none]) (n := n) rfl ⟨0, rfl, by omega, by simp, rfl⟩ ?_
  rintro q a L' ⟨k, rfl, hk, rfl, rfl⟩
  refine yG ?_
  repeat refine LS.seq ?_
  refine LS.cond rfl (fun hc => ?_) (fun hc => ?_)
  · have hc := lt_of hc
    obtain ⟨x, hxk⟩ := ext_list (l := l) (k := k) (by omega)
    obtain ⟨w, hw⟩ := ext_list (l := x.2) (k := 0) (hpos x (List.mem_of_getElem? hxk))
    have hPk : P[k]? = some w := by
      rw [← hP, pick_at (vls_at hxk) (a := 0) (by rw [List.getElem?_replicate, if_pos (show k < n by omega)])]
      simp [hw]
    refine LS.skip ?_
    refine yG ?_
    refine OS.call noGo rfl (fun _ => rfl) ((turn_ct (to := 0) hv hx hl (by simp) (by simp [hPl]; omega) hxk hw).mono ?_)
    rintro v' L2 hL
    rw [hL]
    clear hL
    rw [grow_set hPl hPk, List.set_replicate_self]
    refine yG ?_
    exact ⟨n - (k + 1), by omega, k + 1, rfl, by omega, rfl, rfl⟩
  · have hc := nlt_of hc
    obtain rfl : k = n := by omega
    rw [Nat.sub_self, List.take_of_length_le (by omega), List.replicate_zero, List.append_nil]
    refine LS.exit ?_
    refine yG ?_
    exact ⟨rc, ra, rr, rfl, rfl⟩
/-- A copy of a list of texts that is not nil. -/
theorem Clone_ct {L : RL} {A : Addr} {n c : Nat} {ws : List W} (hv : SV 1 L (.slice (some A) n c) n (strs ws)) (hn : n ≤ 1000000) : CS Try.prog 48 [.slice (some A) n c] L fun u L' => ∃ r, u = .slice (some ⟨r, 0, none⟩) n openCap ∧ L' = (r, .cells 9 (strs ws)) :: L := by
  have hcs := hv.len
  refine CS.mk (fn := Try.f48) rfl rfl rfl rfl ?_
  refine yG ?_
  refine OS.fresh rfl (e_new (fun _ => rfl) rfl) (fun _ => rfl) (fun r0 => ?_)
  refine OS.opened 5 0 (sz := 1) rfl rfl rfl (by simp) (by decide) rfl ?_
  refine yG ?_
  refine OS.fresh rfl (e_appendSV 0 (sz := 1) (bts := 16) (old := []) hv.cons (strs_one ws) rfl rfl rfl (by omega) (by omega) rfl cut_zero rfl) (fun _ => rfl) (fun rI => ?_)
  rw [Nat.zero_add, List.nil_append]
  refine yG ?_
  rfl
abbrev boxL (lv : Value) : ARow := .cells 36 [lv]
theorem rows_ct {L : RL} {A : Option Addr} {n c : Nat} : CS Try.prog 33 [.slice A n c] L fun v L' => ∃ rb, v = .func (.func 45) #[] #[ptr rb] ∧ L' = (rb, boxL (.slice A n c)) :: L := by
  refine CS.mk (fn := Try.f33) rfl rfl rfl rfl ?_
  refine yG ?_
  refine OS.fresh rfl (e_box rfl rfl ⟨rfl, rfl⟩ rfl) (fun _ => rfl) (fun rb => ?_)
  refine yG ?_
  rfl
/-- The iterator: whatever a round does to rows of its own, each row is told once, in order, in new memory. -/
theorem rows1_ct {F G : RL} {r rb n : Nat} {A : Option Addr} {c : Nat} {l : List Ax} {cs : List Value} (hv : SV 2 F (.slice A n c) n cs) (hx : AxR F l cs) (hl : l.length = n) (hn : n ≤ 1000000) (hpos : ∀ x, x ∈ l → 0 < x.2.length) (hmax : ∀ x, x ∈ l → x.2.length ≤ 24)
    (J : Nat → RL → Prop) (hr : ∀ k G, J k G → ∃ p, (r, .loop p) ∈ G) (h0 : J 0 G)
    (hyes : ∀ k G X ry, k < cnt (nsA l) → J k G → YS Try.prog r [.slice (some ⟨ry, 0, none⟩) n openCap] ((ry, .cells 9 (strs (Mx.rowAt (vlsA l) k))) :: (G ++ X)) fun v L' => ∃ G', v = .bool true ∧ L' = G' ++ X ∧ J (k + 1) G') :
    CS Try.prog 45 [.func (.yield r) #[] #[], ptr rb] ((rb, boxL (.slice A n c)) :: (G ++ F)) fun v L' => ∃ G', J (cnt (nsA l)) G' ∧ L' = G' ++ F := by
  have hlens : lens (vlsA l) = nsA l := by simp [lens, vlsA, nsA]
  have hN : 0 < cnt (nsA l) := cnt_pos _ fun m hm => by
    obtain ⟨x, hx, rfl⟩ := List.mem_map.1 hm
    exact hpos x hx
  suffices h : CS Try.prog 45 [.func (.yield r) #[] #[], ptr rb] ((rb, boxL (.slice A n c)) :: (G ++ F)) fun v L' => ∃ L₁, Sub L₁ L' ∧ ∃ G', J (cnt (nsA l)) G' ∧ L₁ = G' ++ F from h.less fun v L' h => h
  have hvG : ∀ {G : RL}, SV 2 (G ++ F) (.slice A n c) n cs := fun {G} => hv.mono fun p hp => List.mem_append_right _ hp
  have hxG : ∀ {G : RL}, AxR (G ++ F) l cs := fun {G} => hx.mono fun p hp => List.mem_append_right _ hp
  refine CS.mk (fn := Try.f45) rfl rfl rfl rfl ?_
  refine yG ?_
  refine OS.call noGo rfl (fun _ => rfl) ((newCounter_ct (F := (rb, boxL (.slice A n c)) :: (G ++ F)) hvG.cons (hxG.mono fun p hp => List.mem_cons_of_mem _ hp) hl hn hpos).mono ?_)
  rintro v' L2 ⟨rc, ra, rr, rfl, rfl⟩
  refine yG ?_
  refine LS.loopJ [0, 3, 4] (fun q a L' => ∃ (k : Nat) (b : Bool) (G : RL), q = cnt (nsA l) - k ∧ k ≤ cnt (nsA l) ∧ b = decide (k < cnt (nsA l)) ∧ J k G ∧ L' = ctr rc ra rr (.slice A n c) n (dig (nsA l) (k % cnt (nsA l))) (pick (vlsA l) (dig (nsA l) (k % cnt (nsA l)))) ((rb, boxL (.slice A n c)) :: (G ++ F)) ∧ a = [.func (.yield r) #[] #[], .chan none, .chan none, ptr rc, .bool b, .chan none, .chan none, .chan none, .chan none, .chan none, .chan none, .chan none, .chan none, .chan none, .chan none, .chan none, .chan none, .chan none]) (n := cnt (nsA l)) rfl ⟨0, true, G, rfl, by omega, by simp [hN], h0, by rw [Nat.zero_mod, ← hlens]; rfl, rfl⟩ ?_
  clear h0
  rintro q a L' ⟨k, b, G, rfl, hk, hb, hJ, rfl, rfl⟩
  by_cases hlt : k < cnt (nsA l)
  · obtain rfl : b = true := by rw [hb]; exact decide_eq_true hlt
    rw [Nat.mod_eq_of_lt hlt]
    obtain ⟨p, hp⟩ := hr k G hJ
    have hpl : (pick (vlsA l) (dig (nsA l) k)).length = n := by rw [pick_len _ _ (by rw [dig_len, ns_len]; simp [vlsA])]; simp [vlsA, hl]
    have hb24 : ∀ a, a ∈ dig (nsA l) k → a ≤ 1000000 := fun a ha => by
      obtain ⟨i, hi⟩ := List.getElem?_of_mem ha
      obtain ⟨m, h1, h2⟩ := dig_lt _ _ hlt i a hi
      obtain ⟨x, hx, rfl⟩ := List.mem_map.1 (List.mem_of_getElem? h1)
      have := hmax x hx
      omega
    have hra : pick (vlsA l) (dig (nsA l) k) = Mx.rowAt (vlsA l) k := by rw [Mx.rowAt, hlens]
    refine yG ?_
    refine OS.call noGo rfl (fun _ => rfl) ((Clone_ct (SV.row (r := rr) (List.mem_cons_of_mem _ (List.mem_cons_of_mem _ (List.mem_cons_self ..))) (by rw [strs_len]; omega)) hn).mono ?_)
    rintro v' L2 ⟨ry, rfl, rfl⟩
    refine ⟨_, rfl, ?_⟩
    refine OS.yield rfl rfl rfl rfl rfl ⟨p, by simp [hp]⟩ (YS.sub (L' := (ry, .cells 9 (strs (Mx.rowAt (vlsA l) k))) :: (G ++ (ctr rc ra rr (.slice A n c) n (dig (nsA l) k) (pick (vlsA l) (dig (nsA l) k)) ((rb, boxL (.slice A n c)) :: F)))) (Sub.sums fun f => by rw [hra]; simp <;> omega) ((hyes k G _ ry hlt hJ).mono ?_))
    rintro v' L2 ⟨G', rfl, rfl, hJ'⟩
    refine ⟨_, rfl, ?_⟩
    refine OS.sub (Sub.sums (A := ctr rc ra rr (.slice A n c) n (dig (nsA l) k) (pick (vlsA l) (dig (nsA l) k)) ((rb, boxL (.slice A n c)) :: (G' ++ F))) fun f => by simp <;> omega) ?_
    refine yG ?_
    refine OS.call noGo rfl (fun _ => rfl) ((goOn_ct (F := (rb, boxL (.slice A n c)) :: (G' ++ F)) hvG.cons (hxG.mono fun p hp => List.mem_cons_of_mem _ hp) hl hn (by rw [dig_len, ns_len]; exact hl) hpos hb24).mono ?_)
    rw [nxt_dig _ _ hlt]
    rintro v' L2 ⟨rfl, rfl⟩
    refine yG ?_
    exact ⟨cnt (nsA l) - (k + 1), by omega, k + 1, _, G', rfl, by omega, rfl, hJ', rfl, rfl⟩
  · obtain rfl : b = false := by rw [hb]; exact decide_eq_false hlt
    obtain rfl : k = cnt (nsA l) := by omega
    refine yG ?_
    refine LS.exit ?_
    refine ⟨_, fun _ _ => rfl, _, Sub.drops 4 rfl, G, hJ, rfl⟩
end Go.Proofs.Ytllcbjaajffaeaa
