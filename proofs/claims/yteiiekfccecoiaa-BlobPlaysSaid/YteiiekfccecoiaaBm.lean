/- Layer 8: Get, Blocks, Drop, Claim. -/
import Derived.Test.YteiiekfccecoiaaBj
namespace Go.Proofs.Yteiiekfccecoiaa
open Go.Am
set_option linter.unusedVariables false
set_option maxRecDepth 20000

theorem BD.mem {b : Nat} {bs : List UInt8} {F L : RL} (h : BD b bs F L) : ∀ p, p ∈ F → p ∈ L := by
  obtain ⟨_, _, Y, _, _, _, rfl⟩ := h
  exact fun p hp => List.mem_append_right _ (List.mem_cons_of_mem _ hp)
theorem sum_img {l : List Nat} {data : List UInt8} (h : 0 < l.length) : sumT (imgs l data (sumV l data)) = (sumV l data : Nat) := by rw [sumT_same h, sumV_is]

theorem stands_ct {c : Whr} {s : Dk} {T : List Bool} {F : RL} {l : List Nat} {data : List UInt8} {id : Nat} (hB : Bok c s T) (hd : s.dead = false) (hV : Val s.D c.base T.length l data) (hid : l[0]? = some id) :
    CS Try.prog 48 [ptr c.rD, .int .i64 (id : Nat)] (bl c s T F) fun v L' => ∃ q, v = .tuple #[.slice (some ⟨q, 0, none⟩) l.length openCap, txt data, .int .i64 0] ∧ L' = bl c s T ((q, .cells 3 (ints l)) :: F) := by
  have hn2 := need_two data.length
  have hnl := need_le (n := data.length) (by have := hV.dl; omega)
  have hlen := hV.len
  have hdl := hV.dl
  refine CS.mk (fn := Try.f48) rfl rfl rfl rfl ?_
  repeat refine LS.seq ?_
  refine LS.region rfl ?_
  refine OS.pure rfl (fun _ => rfl) rfl ?_
  refine OS.pure rfl (fun _ => rfl) rfl ?_
  refine OS.pure rfl (fun _ => rfl) rfl ?_
  refine OS.nil ?_
  repeat refine LS.seq ?_
  refine LS.region rfl ?_
  refine OS.pure rfl (fun _ => rfl) rfl ?_
  refine OS.pure rfl (fun _ => rfl) rfl ?_
  obtain ⟨n, hn⟩ : ∃ n, n = l.length := ⟨_, rfl⟩
  refine OS.call noGo rfl (fun _ => rfl) ((ring_ct hB hd hV hn hid).mono ?_)
  rintro v L' ⟨q1, q2, rs, rfl, hrl, rfl⟩
  obtain ⟨B, hBdef⟩ : ∃ B, B = imgs l data (sumV l data) := ⟨_, rfl⟩
  have hBl : B.length = n := by rw [hBdef, imgs_len, hn]
  have hBat : ∀ k, k < n → B[k]? = some (img l data k) := fun k hk => by rw [hBdef]; exact imgs_at (by omega)
  have hB256 : ∀ b ∈ B, b.length = 256 := fun b hb => by
    rw [hBdef] at hb
    obtain ⟨k, _, rfl⟩ := List.mem_map.1 hb
    exact imgB_len ..
  have hsum : sumT B = (sumV l data : Nat) := by rw [hBdef]; exact sum_img (by omega)
  rw [← hBdef, ← hn]
  obtain ⟨G, hG⟩ : ∃ G, G = bl c s T ((q1, .cells 3 (ints l)) :: (q2, .cells 73 (rs.map bv)) :: (dR rs B ++ F)) := ⟨_, rfl⟩
  have hav : AV G (.slice (some ⟨q2, 0, none⟩) n openCap) n rs := ⟨q2, openCap, rfl, by rw [hG]; simp, hrl, .inl rfl⟩
  have hrd : Rd G rs B := (dR_rd (by omega) hB256).mono (fun p hp => by rw [hG]; simp [hp])
  have hblk : ∀ k r, rs[k]? = some r → (r, ARow.cells 124 (byteCells (img l data k))) ∈ G := fun k r hr => by
    have hk : k < n := by have := (List.getElem?_eq_some_iff.1 hr).1; omega
    have := dR_mem hr (hBat k hk)
    rw [hG]; simp [this]
  obtain ⟨r0, hr0⟩ : ∃ r, rs[0]? = some r := ⟨_, List.getElem?_eq_getElem (by omega)⟩
  have hend : Sub (bl c s T ((q1, .cells 3 (ints l)) :: F)) G := by
    rw [hG]
    exact Sub.sums2 ((q2, .cells 73 (rs.map bv)) :: dR rs B) fun f => by simp [bl, Z.fm] <;> omega
  rw [← hG]
  clear hG
  refine ⟨_, rfl, ?_⟩
  refine OS.pure rfl (fun _ => rfl) rfl ?_
  refine OS.pure rfl (fun _ => rfl) rfl ?_
  refine OS.pure rfl (fun _ => rfl) rfl ?_
  refine OS.pure rfl (fun _ => rfl) rfl ?_
  refine OS.pure rfl (fun _ => rfl) rfl ?_
  refine OS.pure rfl (fun _ => rfl) rfl ?_
  refine OS.pure rfl (fun _ => rfl) rfl ?_
  refine OS.nil ?_
  repeat refine LS.seq ?_
  refine LS.region rfl ?_
  refine OS.pure rfl (fun _ => rfl) rfl ?_
  refine OS.pure rfl (fun _ => rfl) rfl ?_
  refine OS.nil ?_
  refine LS.cond rfl (fun hc => by cases hc) (fun hc => ?_)
  refine LS.skip ?_
  repeat refine LS.seq ?_
  refine LS.region rfl ?_
  refine OS.pure rfl (fun _ => rfl) rfl ?_
  refine OS.at1 (j := 0) ((hav.sv)) ((show _ = some (bv r0) by simp [hr0])) rfl rfl rfl rfl rfl rfl (fun ra0 oa0 rowa0 csa0 ma0 ca0 ga0 => ⟨_, rfl, ?_⟩)
  refine OS.read rfl (e_loadm ma0 ca0 rfl rfl (part_one rfl ga0)) rfl ?_
  refine OS.pure rfl (fun _ => rfl) rfl ?_
  refine OS.nil ?_
  have hne : (!ieqB ((sumV l data : Nat) : Int) ((sumV l data : Nat) : Int)) = false := by rw [ieqB_eq]; simp
  repeat refine LS.seq ?_
  refine LS.region rfl ?_
  refine OS.pure rfl (fun _ => rfl) rfl ?_
  refine OS.pure rfl (fun _ => rfl) rfl ?_
  refine OS.call noGo rfl (fun _ => rfl) ((number_ct (sv_cut (off := 5) (m := 8) (hblk 0 r0 hr0) (by rw [imgB_len]; omega)) (by omega)).mono ?_)
  rintro v L' ⟨rfl, eL⟩
  rw [eL]; clear eL
  rw [img_sum]
  refine ⟨_, rfl, ?_⟩
  refine OS.pure rfl (fun _ => rfl) rfl ?_
  refine OS.call noGo rfl (fun _ => rfl) ((sumOf_ct hav hrd (by omega) (by omega)).mono ?_)
  rintro v L' ⟨rfl, eL⟩
  rw [eL]; clear eL
  rw [hsum]
  refine ⟨_, rfl, ?_⟩
  refine OS.pure rfl (e_is (fun _ => rfl) (congrArg Value.bool hne)) rfl ?_
  refine OS.nil ?_
  refine LS.cond rfl (fun hc => by cases hc) (fun hc => ?_)
  refine LS.skip ?_
  repeat refine LS.seq ?_
  refine LS.region rfl ?_
  refine OS.pure rfl (fun _ => rfl) rfl ?_
  refine OS.call noGo rfl (fun _ => rfl) ((sizeIn_ct (hblk 0 r0 hr0) (imgB_len ..)).mono ?_)
  rintro v L' ⟨rfl, eL⟩
  rw [eL]; clear eL
  rw [img_size (by omega)]
  refine ⟨_, rfl, ?_⟩
  refine OS.pure rfl (fun _ => rfl) rfl ?_
  refine OS.nil ?_
  repeat refine LS.seq ?_
  refine LS.region rfl ?_
  refine OS.fresh rfl (e_new (fun _ => rfl) rfl) (fun _ => rfl) (fun rB => ?_)
  refine OS.nil ?_
  repeat refine LS.seq ?_
  refine LS.region rfl ?_
  refine OS.pure rfl (fun _ => rfl) rfl ?_
  refine OS.pure rfl (fun _ => rfl) rfl ?_
  refine OS.pure rfl (fun _ => rfl) rfl ?_
  refine OS.nil ?_
  refine LS.mid [7, 12] (fun a L' => BD rB data G L' ∧ a = [.chan none, .chan none, .chan none, .chan none, .chan none, .chan none, .chan none, .slice (some ⟨q1, 0, none⟩) n openCap, .chan none, .chan none, .chan none, .chan none, ptr rB, .chan none, .chan none, .chan none, .chan none, .chan none, .chan none, .chan none, .chan none, .chan none, .chan none, .chan none, .chan none, .chan none, .chan none, .chan none, .chan none, .chan none, .chan none, .chan none, .chan none, .chan none, .chan none, .chan none, .chan none, .chan none, .chan none, .chan none, .chan none, .chan none, .chan none, .chan none, .chan none, .chan none, .chan none, .chan none, .chan none, .chan none, .chan none, .chan none, .chan none, .chan none, .chan none, .chan none, .chan none, .chan none, .chan none, .chan none]) ?_ ?_
  · refine LS.block ?_
    refine LS.loopJ [7, 11, 12, 37, 38, 39] (fun q a L' => ∃ i, q = n - i ∧ i ≤ n ∧ BD rB (data.take (offB i)) G L' ∧
      a = [.chan none, .chan none, .chan none, .chan none, .chan none, .chan none, .chan none, .slice (some ⟨q1, 0, none⟩) n openCap, .chan none, .chan none, .chan none, .int .i64 (data.length : Nat), ptr rB, .chan none, .chan none, .chan none, .chan none, .chan none, .chan none, .chan none, .chan none, .chan none, .chan none, .chan none, .chan none, .chan none, .chan none, .chan none, .chan none, .chan none, .chan none, .chan none, .chan none, .chan none, .chan none, .chan none, .chan none, .slice (some ⟨q2, 0, none⟩) n openCap, .int .i64 (n : Nat), .int .i64 (i : Nat), .chan none, .chan none, .chan none, .chan none, .chan none, .chan none, .chan none, .chan none, .chan none, .chan none, .chan none, .chan none, .chan none, .chan none, .chan none, .chan none, .chan none, .chan none, .chan none, .chan none]) (n := n) rfl ⟨0, rfl, by omega, ⟨.pointer none, .slice none 0 0, [], .inl ⟨rfl, rfl⟩, GV.nil, fun _ => rfl, rfl⟩, rfl⟩ ?_
    rintro q a L' ⟨i, rfl, hi, hBD, rfl⟩
    repeat refine LS.seq ?_
    refine LS.region rfl ?_
    refine OS.pure rfl (fun _ => rfl) rfl ?_
    refine OS.nil ?_
    repeat refine LS.seq ?_
    refine LS.cond rfl (fun hc => ?_) (fun hc => ?_)
    · have hc : (i : Int) < n := lt_of hc
      have hin : i < n := by omega
      obtain ⟨r, hr⟩ : ∃ r, rs[i]? = some r := ⟨_, List.getElem?_eq_getElem (by omega)⟩
      have hd2 := dAt_cases i
      refine LS.skip ?_
      repeat refine LS.seq ?_
      refine LS.block ?_
      repeat refine LS.seq ?_
      refine LS.region rfl ?_
      refine OS.pure rfl (fun _ => rfl) rfl ?_
      refine OS.at1 (j := i) ((hav.sv.mono hBD.mem)) ((show _ = some (bv r) by simp [hr])) rfl rfl rfl rfl rfl rfl (fun ra0 oa0 rowa0 csa0 ma0 ca0 ga0 => ⟨_, rfl, ?_⟩)
      refine OS.read rfl (e_loadm ma0 ca0 rfl rfl (part_one rfl ga0)) rfl ?_
      refine OS.pure rfl (fun _ => rfl) rfl ?_
      refine OS.pure rfl (fun _ => rfl) rfl ?_
      refine OS.nil ?_
      repeat refine LS.seq ?_
      refine LS.region rfl ?_
      refine OS.pure rfl (fun _ => rfl) rfl ?_
      refine OS.pure rfl (fun _ => rfl) rfl ?_
      refine OS.call noGo rfl (fun _ => rfl) ((dataAt_ct i).mono ?_)
      rintro v L' ⟨rfl, rfl⟩
      refine ⟨_, rfl, ?_⟩
      refine OS.pure rfl (e_cutC (l := dAt i) (u := 256) (sz := 1) rfl rfl rfl rfl bound_nat rfl rfl rfl (by decide) (Nat.le_refl _) (by omega)) rfl ?_
      refine OS.pure rfl (fun _ => rfl) rfl ?_
      refine OS.nil ?_
      repeat refine LS.seq ?_
      refine LS.region rfl ?_
      refine OS.pure rfl (fun _ => rfl) rfl ?_
      refine OS.pure rfl (fun _ => rfl) rfl ?_
      refine OS.pure rfl (fun _ => rfl) rfl ?_
      refine OS.pure rfl (fun _ => rfl) rfl ?_
      refine OS.call noGo rfl (fun _ => rfl) ((BLen_ct hBD).mono ?_)
      rintro v L' ⟨rfl, hBD⟩
      obtain ⟨m, hm⟩ : ∃ m, m = min (256 - dAt i) (data.length - min (offB i) data.length) := ⟨_, rfl⟩
      have htl : (data.take (offB i)).length = min (offB i) data.length := by simp
      rw [htl]
      refine ⟨_, rfl, ?_⟩
      refine OS.pure rfl (e_is (e_sub (k := .i64) (m := ((data.length : Nat) : Int)) (n := ((min (offB i) data.length : Nat) : Int)) rfl rfl rfl (in_i64 (by omega) (by omega))) (congrArg (Value.int .i64) (show ((data.length : Nat) : Int) - ((min (offB i) data.length : Nat) : Int) = ((data.length - min (offB i) data.length : Nat) : Int) by omega))) rfl ?_
      refine OS.pure rfl (e_is (e_min rfl rfl rfl) (congrArg (Value.int .i64) (show min (((256 - dAt i : Nat) : Int)) ((data.length - min (offB i) data.length : Nat) : Int) = ((m : Nat) : Int) by omega))) rfl ?_
      refine OS.pure rfl (e_cutC (l := 0) (u := m) (sz := 1) rfl rfl rfl rfl rfl bound_nat rfl rfl (by unfold openCap; omega) (by omega) (Nat.zero_le _)) rfl ?_
      have hsv : SV 1 G (.slice (some ⟨r, 0 + dAt i * 1 + 0 * 1, none⟩) (m - 0) (256 - dAt i - 0)) (m - 0) (byteCells (partB data i)) := by
        have h1 := sv_cut (off := 0 + dAt i * 1 + 0 * 1) (m := m - 0) (cap := 256 - dAt i - 0) (hblk i r hr) (by rw [imgB_len]; omega)
        have h2 : ((img l data i).drop (0 + dAt i * 1 + 0 * 1)).take (m - 0) = partB data i := by
          rw [show 0 + dAt i * 1 + 0 * 1 = dAt i by omega, Nat.sub_zero, img_body, hm, body_part]
        rwa [h2] at h1
      have hpl := partB_len data i
      refine OS.call noGo rfl (fun _ => rfl) ((BWrite_ct hBD hsv (by rw [htl]; omega)).mono ?_)
      rintro v L' hBD
      rw [take_partB] at hBD
      refine ⟨_, rfl, ?_⟩
      refine OS.nil ?_
      repeat refine LS.seq ?_
      refine LS.region rfl ?_
      refine OS.pure rfl (e_add rfl rfl rfl (in_i64 (by omega) (by omega))) rfl ?_
      refine OS.pure rfl (fun _ => rfl) rfl ?_
      refine OS.nil ?_
      exact ⟨n - (i + 1), by omega, i + 1, rfl, by omega, hBD, rfl⟩
    have hc : (n : Int) ≤ i := nlt_of hc
    have hin : i = n := by omega
    subst hin
    have hcap := need_cap data.length
    rw [List.take_of_length_le (by rw [hn, hlen]; exact hcap)] at hBD
    refine LS.exit ?_
    exact ⟨hBD, rfl⟩
  rintro a L' ⟨hBD, rfl⟩
  repeat refine LS.seq ?_
  refine LS.region rfl ?_
  refine OS.pure rfl (fun _ => rfl) rfl ?_
  refine OS.call noGo rfl (fun _ => rfl) ((BString_ct hBD (by omega)).mono ?_)
  rintro v L' ⟨rfl, rfl⟩
  refine ⟨_, rfl, ?_⟩
  refine OS.pure rfl (fun _ => rfl) rfl ?_
  refine OS.pure rfl (fun _ => rfl) rfl ?_
  refine OS.pure rfl (fun _ => rfl) rfl ?_
  refine OS.nil ?_
  refine LS.sub hend ?_
  refine LS.ret ⟨_, fun _ _ => rfl, ?_⟩
  exact ⟨q1, rfl, rfl⟩

theorem kept_ct {c : Whr} {s : Dk} {T : List Bool} {F : RL} {l : List Nat} {data : List UInt8} {id : Nat} (hB : Bok c s T) (hd : s.dead = false) (hV : Val s.D c.base T.length l data) (hid : l[0]? = some id) (ht : Z.tkn T id = true) :
    CS Try.prog 45 [ptr c.rD, .int .i64 (id : Nat)] (bl c s T F) fun v L' => ∃ q, v = .tuple #[.slice (some ⟨q, 0, none⟩) l.length openCap, txt data, .int .i64 0] ∧ L' = bl c s T ((q, .cells 3 (ints l)) :: F) := by
  have hidl : id < T.length := hV.lt _ (List.mem_of_getElem? hid)
  refine CS.mk (fn := Try.f45) rfl rfl rfl rfl ?_
  repeat refine LS.seq ?_
  refine LS.region rfl ?_
  refine OS.pure rfl (fun _ => rfl) rfl ?_
  refine OS.pure rfl (fun _ => rfl) rfl ?_
  refine OS.pure rfl (fun _ => rfl) rfl ?_
  refine OS.nil ?_
  repeat refine LS.seq ?_
  refine LS.region rfl ?_
  refine OS.pure rfl (fun _ => rfl) rfl ?_
  refine OS.call noGo rfl (fun _ => rfl) ((bRefusal_ct).mono ?_)
  rintro v L' ⟨rfl, rfl⟩
  rw [hd]
  refine ⟨_, rfl, ?_⟩
  refine OS.pure rfl (fun _ => rfl) rfl ?_
  refine OS.nil ?_
  repeat refine LS.seq ?_
  refine LS.region rfl ?_
  refine OS.pure rfl (fun _ => rfl) rfl ?_
  refine OS.pure rfl (fun _ => rfl) rfl ?_
  refine OS.nil ?_
  refine LS.cond rfl (fun hc => by cases hc) (fun hc => ?_)
  refine LS.skip ?_
  repeat refine LS.seq ?_
  refine LS.region rfl ?_
  refine OS.pure rfl (fun _ => rfl) rfl ?_
  refine OS.pure rfl (fun _ => rfl) rfl ?_
  refine OS.pure rfl (fun _ => rfl) rfl ?_
  refine OS.read rfl (e_load 0 rfl rfl rfl rfl rfl) rfl ?_
  refine OS.pure rfl (fun _ => rfl) rfl ?_
  refine OS.sub (Sub.pulls [5, 5] rfl) ?_
  refine OS.call noGo rfl (fun _ => rfl) ((Z.Taken_ct hB.len (id : Nat)).mono ?_)
  rintro v L' ⟨rfl, rfl⟩
  rw [decide_eq_true (show 0 ≤ ((id : Nat) : Int) ∧ ((id : Nat) : Int) < T.length by omega), Int.toNat_natCast, ht]
  refine ⟨_, rfl, ?_⟩
  refine OS.pure rfl (fun _ => rfl) rfl ?_
  refine OS.sub (Sub.pulls [5, 5, 5, 5] rfl) ?_
  refine OS.nil ?_
  refine LS.cond rfl (fun hc => by cases hc) (fun hc => ?_)
  refine LS.skip ?_
  repeat refine LS.seq ?_
  refine LS.region rfl ?_
  refine OS.pure rfl (fun _ => rfl) rfl ?_
  refine OS.pure rfl (fun _ => rfl) rfl ?_
  refine OS.call noGo rfl (fun _ => rfl) ((stands_ct hB hd hV hid).mono ?_)
  rintro v L' ⟨q, rfl, rfl⟩
  refine ⟨_, rfl, ?_⟩
  refine OS.pure rfl (fun _ => rfl) rfl ?_
  refine OS.pure rfl (fun _ => rfl) rfl ?_
  refine OS.pure rfl (fun _ => rfl) rfl ?_
  refine OS.pure rfl (fun _ => rfl) rfl ?_
  refine OS.pure rfl (fun _ => rfl) rfl ?_
  refine OS.pure rfl (fun _ => rfl) rfl ?_
  refine OS.nil ?_
  refine LS.ret ⟨_, fun _ _ => rfl, ?_⟩
  exact ⟨q, rfl, rfl⟩
/-- A block that is free, or none. -/
theorem kept_none {c : Whr} {s : Dk} {T : List Bool} {F : RL} (hT : T.length ≤ 32768) (hd : s.dead = false) (i : Int) (ht : (decide (0 ≤ i ∧ i < T.length) && Z.tkn T i.toNat) = false) :
    CS Try.prog 45 [ptr c.rD, .int .i64 i] (bl c s T F) fun v L' => v = .tuple #[.slice none 0 0, txt [], .int .i64 5] ∧ L' = bl c s T F := by
  refine CS.mk (fn := Try.f45) rfl rfl rfl rfl ?_
  repeat refine LS.seq ?_
  refine LS.region rfl ?_
  refine OS.pure rfl (fun _ => rfl) rfl ?_
  refine OS.pure rfl (fun _ => rfl) rfl ?_
  refine OS.pure rfl (fun _ => rfl) rfl ?_
  refine OS.nil ?_
  repeat refine LS.seq ?_
  refine LS.region rfl ?_
  refine OS.pure rfl (fun _ => rfl) rfl ?_
  refine OS.call noGo rfl (fun _ => rfl) ((bRefusal_ct).mono ?_)
  rintro v L' ⟨rfl, rfl⟩
  rw [hd]
  refine ⟨_, rfl, ?_⟩
  refine OS.pure rfl (fun _ => rfl) rfl ?_
  refine OS.nil ?_
  repeat refine LS.seq ?_
  refine LS.region rfl ?_
  refine OS.pure rfl (fun _ => rfl) rfl ?_
  refine OS.pure rfl (fun _ => rfl) rfl ?_
  refine OS.nil ?_
  refine LS.cond rfl (fun hc => by cases hc) (fun hc => ?_)
  refine LS.skip ?_
  repeat refine LS.seq ?_
  refine LS.region rfl ?_
  refine OS.pure rfl (fun _ => rfl) rfl ?_
  refine OS.pure rfl (fun _ => rfl) rfl ?_
  refine OS.pure rfl (fun _ => rfl) rfl ?_
  refine OS.read rfl (e_load 0 rfl rfl rfl rfl rfl) rfl ?_
  refine OS.pure rfl (fun _ => rfl) rfl ?_
  refine OS.sub (Sub.pulls [5, 5] rfl) ?_
  refine OS.call noGo rfl (fun _ => rfl) ((Z.Taken_ct hT i).mono ?_)
  rintro v L' ⟨rfl, rfl⟩
  rw [ht]
  refine ⟨_, rfl, ?_⟩
  refine OS.pure rfl (fun _ => rfl) rfl ?_
  refine OS.sub (Sub.pulls [5, 5, 5, 5] rfl) ?_
  refine OS.nil ?_
  refine LS.cond rfl (fun hc => ?_) (fun hc => by cases hc)
  repeat refine LS.seq ?_
  refine LS.region rfl ?_
  refine OS.pure rfl (fun _ => rfl) rfl ?_
  refine OS.pure rfl (fun _ => rfl) rfl ?_
  refine OS.pure rfl (fun _ => rfl) rfl ?_
  refine OS.nil ?_
  refine LS.ret ⟨_, fun _ _ => rfl, ?_⟩
  exact ⟨rfl, rfl⟩
theorem Get_ct {c : Whr} {s : Dk} {T : List Bool} {F : RL} {l : List Nat} {data : List UInt8} {id : Nat} (hB : Bok c s T) (hd : s.dead = false) (hV : Val s.D c.base T.length l data) (hid : l[0]? = some id) (ht : Z.tkn T id = true) :
    CS Try.prog 21 [ptr c.rD, .int .i64 (id : Nat)] (bl c s T F) fun v L' => v = .tuple #[txt data, .int .i64 0] ∧ L' = bl c s T F := by
  suffices h : CS Try.prog 21 [ptr c.rD, .int .i64 (id : Nat)] (bl c s T F) fun v L' => v = .tuple #[txt data, .int .i64 0] ∧ ∃ x, L' = bl c s T (x :: F) by
    exact h.less fun v L' ⟨h1, x, h2⟩ => ⟨_, by rw [h2]; exact Sub.sums2 (A := bl c s T F) [x] fun f => by simp [bl, Z.fm] <;> omega, h1, rfl⟩
  refine CS.mk (fn := Try.f21) rfl rfl rfl rfl ?_
  repeat refine LS.seq ?_
  refine LS.region rfl ?_
  refine OS.pure rfl (fun _ => rfl) rfl ?_
  refine OS.pure rfl (fun _ => rfl) rfl ?_
  refine OS.nil ?_
  repeat refine LS.seq ?_
  refine LS.region rfl ?_
  refine OS.pure rfl (fun _ => rfl) rfl ?_
  refine OS.pure rfl (fun _ => rfl) rfl ?_
  refine OS.call noGo rfl (fun _ => rfl) ((kept_ct hB hd hV hid ht).mono ?_)
  rintro v L' ⟨q, rfl, rfl⟩
  refine ⟨_, rfl, ?_⟩
  refine OS.pure rfl (fun _ => rfl) rfl ?_
  refine OS.pure rfl (fun _ => rfl) rfl ?_
  refine OS.pure rfl (fun _ => rfl) rfl ?_
  refine OS.pure rfl (fun _ => rfl) rfl ?_
  refine OS.pure rfl (fun _ => rfl) rfl ?_
  refine OS.pure rfl (fun _ => rfl) rfl ?_
  refine OS.pure rfl (fun _ => rfl) rfl ?_
  refine OS.nil ?_
  repeat refine LS.seq ?_
  refine LS.region rfl ?_
  refine OS.pure rfl (fun _ => rfl) rfl ?_
  refine OS.pure rfl (fun _ => rfl) rfl ?_
  refine OS.pure rfl (fun _ => rfl) rfl ?_
  refine OS.pure rfl (fun _ => rfl) rfl ?_
  refine OS.nil ?_
  refine LS.ret ⟨_, fun _ _ => rfl, ?_⟩
  exact ⟨rfl, _, rfl⟩
theorem Get_none {c : Whr} {s : Dk} {T : List Bool} {F : RL} (hT : T.length ≤ 32768) (hd : s.dead = false) (i : Int) (ht : (decide (0 ≤ i ∧ i < T.length) && Z.tkn T i.toNat) = false) :
    CS Try.prog 21 [ptr c.rD, .int .i64 i] (bl c s T F) fun v L' => v = .tuple #[txt [], .int .i64 5] ∧ L' = bl c s T F := by
  refine CS.mk (fn := Try.f21) rfl rfl rfl rfl ?_
  repeat refine LS.seq ?_
  refine LS.region rfl ?_
  refine OS.pure rfl (fun _ => rfl) rfl ?_
  refine OS.pure rfl (fun _ => rfl) rfl ?_
  refine OS.nil ?_
  repeat refine LS.seq ?_
  refine LS.region rfl ?_
  refine OS.pure rfl (fun _ => rfl) rfl ?_
  refine OS.pure rfl (fun _ => rfl) rfl ?_
  refine OS.call noGo rfl (fun _ => rfl) ((kept_none hT hd i ht).mono ?_)
  rintro v L' ⟨rfl, rfl⟩
  refine ⟨_, rfl, ?_⟩
  refine OS.pure rfl (fun _ => rfl) rfl ?_
  refine OS.pure rfl (fun _ => rfl) rfl ?_
  refine OS.pure rfl (fun _ => rfl) rfl ?_
  refine OS.pure rfl (fun _ => rfl) rfl ?_
  refine OS.pure rfl (fun _ => rfl) rfl ?_
  refine OS.pure rfl (fun _ => rfl) rfl ?_
  refine OS.pure rfl (fun _ => rfl) rfl ?_
  refine OS.nil ?_
  repeat refine LS.seq ?_
  refine LS.region rfl ?_
  refine OS.pure rfl (fun _ => rfl) rfl ?_
  refine OS.pure rfl (fun _ => rfl) rfl ?_
  refine OS.pure rfl (fun _ => rfl) rfl ?_
  refine OS.pure rfl (fun _ => rfl) rfl ?_
  refine OS.nil ?_
  refine LS.ret ⟨_, fun _ _ => rfl, ?_⟩
  exact ⟨rfl, rfl⟩
theorem Blocks_ct {c : Whr} {s : Dk} {T : List Bool} {F : RL} {l : List Nat} {data : List UInt8} {id : Nat} (hB : Bok c s T) (hd : s.dead = false) (hV : Val s.D c.base T.length l data) (hid : l[0]? = some id) (ht : Z.tkn T id = true) :
    CS Try.prog 29 [ptr c.rD, .int .i64 (id : Nat)] (bl c s T F) fun v L' => ∃ q, v = .tuple #[.slice (some ⟨q, 0, none⟩) l.length openCap, .int .i64 0] ∧ L' = bl c s T ((q, .cells 3 (ints l)) :: F) := by
  refine CS.mk (fn := Try.f29) rfl rfl rfl rfl ?_
  repeat refine LS.seq ?_
  refine LS.region rfl ?_
  refine OS.pure rfl (fun _ => rfl) rfl ?_
  refine OS.pure rfl (fun _ => rfl) rfl ?_
  refine OS.nil ?_
  repeat refine LS.seq ?_
  refine LS.region rfl ?_
  refine OS.pure rfl (fun _ => rfl) rfl ?_
  refine OS.pure rfl (fun _ => rfl) rfl ?_
  refine OS.call noGo rfl (fun _ => rfl) ((kept_ct hB hd hV hid ht).mono ?_)
  rintro v L' ⟨q, rfl, rfl⟩
  refine ⟨_, rfl, ?_⟩
  refine OS.pure rfl (fun _ => rfl) rfl ?_
  refine OS.pure rfl (fun _ => rfl) rfl ?_
  refine OS.pure rfl (fun _ => rfl) rfl ?_
  refine OS.pure rfl (fun _ => rfl) rfl ?_
  refine OS.pure rfl (fun _ => rfl) rfl ?_
  refine OS.pure rfl (fun _ => rfl) rfl ?_
  refine OS.pure rfl (fun _ => rfl) rfl ?_
  refine OS.nil ?_
  repeat refine LS.seq ?_
  refine LS.region rfl ?_
  refine OS.pure rfl (fun _ => rfl) rfl ?_
  refine OS.pure rfl (fun _ => rfl) rfl ?_
  refine OS.pure rfl (fun _ => rfl) rfl ?_
  refine OS.pure rfl (fun _ => rfl) rfl ?_
  refine OS.nil ?_
  refine LS.ret ⟨_, fun _ _ => rfl, ?_⟩
  exact ⟨q, rfl, rfl⟩
theorem Drop_ct {c : Whr} {s : Dk} {T : List Bool} {F : RL} {l : List Nat} {data : List UInt8} {id : Nat} (hB : Bok c s T) (hd : s.dead = false) (hV : Val s.D c.base T.length l data) (hid : l[0]? = some id) (ht : Z.tkn T id = true) :
    CS Try.prog 19 [ptr c.rD, .int .i64 (id : Nat)] (bl c s T F) fun v L' => v = .int .i64 0 ∧ L' = bl c s (Z.giveL T l) F := by
  have hnl := need_le (n := data.length) (by have := hV.dl; omega)
  have hlen := hV.len
  suffices h : CS Try.prog 19 [ptr c.rD, .int .i64 (id : Nat)] (bl c s T F) fun v L' => v = .int .i64 0 ∧ ∃ x, L' = bl c s (Z.giveL T l) (x :: F) by
    exact h.less fun v L' ⟨h1, x, h2⟩ => ⟨_, by rw [h2]; exact Sub.sums2 (A := bl c s (Z.giveL T l) F) [x] fun f => by simp [bl, Z.fm] <;> omega, h1, rfl⟩
  refine CS.mk (fn := Try.f19) rfl rfl rfl rfl ?_
  repeat refine LS.seq ?_
  refine LS.region rfl ?_
  refine OS.pure rfl (fun _ => rfl) rfl ?_
  refine OS.nil ?_
  repeat refine LS.seq ?_
  refine LS.region rfl ?_
  refine OS.pure rfl (fun _ => rfl) rfl ?_
  refine OS.pure rfl (fun _ => rfl) rfl ?_
  refine OS.call noGo rfl (fun _ => rfl) ((kept_ct hB hd hV hid ht).mono ?_)
  rintro v L' ⟨q, rfl, rfl⟩
  refine ⟨_, rfl, ?_⟩
  refine OS.pure rfl (fun _ => rfl) rfl ?_
  refine OS.pure rfl (fun _ => rfl) rfl ?_
  refine OS.pure rfl (fun _ => rfl) rfl ?_
  refine OS.pure rfl (fun _ => rfl) rfl ?_
  refine OS.pure rfl (fun _ => rfl) rfl ?_
  refine OS.pure rfl (fun _ => rfl) rfl ?_
  refine OS.pure rfl (fun _ => rfl) rfl ?_
  refine OS.nil ?_
  repeat refine LS.seq ?_
  refine LS.region rfl ?_
  refine OS.pure rfl (fun _ => rfl) rfl ?_
  refine OS.pure rfl (fun _ => rfl) rfl ?_
  refine OS.nil ?_
  refine LS.mid [7] (fun a L' => L' = bl c s (Z.giveL T l) ((q, .cells 3 (ints l)) :: F) ∧ a = [.chan none, .chan none, .chan none, .chan none, .chan none, .chan none, .chan none, .int .i64 0, .chan none, .chan none, .chan none, .chan none, .chan none, .chan none, .chan none, .chan none, .chan none, .chan none, .chan none, .chan none, .chan none, .chan none, .chan none, .chan none]) ?_ ?_
  · refine LS.cond rfl (fun hc => ?_) (fun hc => by cases hc)
    repeat refine LS.seq ?_
    refine LS.region rfl ?_
    refine OS.pure rfl (fun _ => rfl) rfl ?_
    refine OS.pure rfl (fun _ => rfl) rfl ?_
    refine OS.pure rfl (fun _ => rfl) rfl ?_
    refine OS.read rfl (e_load 0 rfl rfl rfl rfl rfl) rfl ?_
    refine OS.pure rfl (fun _ => rfl) rfl ?_
    refine OS.sub (Sub.pulls [5, 5] rfl) ?_
    refine OS.call noGo rfl (fun _ => rfl) ((giveBack_ct (l := l) hB.len (SV.row (e := 3) (r := q) (n := l.length) (by simp) (by simp)) (by omega)).mono ?_)
    rintro v L' rfl
    refine ⟨_, rfl, ?_⟩
    refine OS.sub (Sub.pulls [5, 5, 5, 5] rfl) ?_
    refine OS.nil ?_
    exact ⟨rfl, rfl⟩
  rintro a L' ⟨rfl, rfl⟩
  repeat refine LS.seq ?_
  refine LS.region rfl ?_
  refine OS.pure rfl (fun _ => rfl) rfl ?_
  refine OS.pure rfl (fun _ => rfl) rfl ?_
  refine OS.nil ?_
  refine LS.ret ⟨_, fun _ _ => rfl, ?_⟩
  exact ⟨rfl, _, rfl⟩

/-- No block of a list is taken. -/
theorem index_free {F : RL} {rm rf n : Nat} {T : List Bool} {lv : Value} {l : List Nat} (hT : T.length ≤ 32768) (hl : SV 1 F lv n (ints l)) (hn : n ≤ 1000000) (hf : ∀ x ∈ l, Z.tkn T x = false) :
    CS Try.prog 76 [lv, .func (.func 30) #[ptr rm] #[]] (Z.fm rm rf T F) fun v L' => v = .int .i64 (-1) ∧ L' = Z.fm rm rf T F := by
  have hln : l.length = n := by have := hl.len; simp at this; exact this
  refine CS.mk (fn := Try.f76) rfl rfl rfl rfl ?_
  repeat refine LS.seq ?_
  refine LS.region rfl ?_
  refine OS.pure rfl (fun _ => rfl) rfl ?_
  refine OS.nil ?_
  repeat refine LS.seq ?_
  refine LS.region rfl ?_
  refine OS.pure rfl (fun _ => rfl) rfl ?_
  refine OS.pure rfl (e_len hl rfl rfl rfl rfl rfl) rfl ?_
  refine OS.pure rfl (fun _ => rfl) rfl ?_
  refine OS.nil ?_
  repeat refine LS.seq ?_
  refine LS.block ?_
  refine LS.loopJ [0, 1, 7, 8] (fun q a L' => ∃ i, q = n - i ∧ i ≤ n ∧ L' = Z.fm rm rf T F ∧
    a = [lv, .func (.func 30) #[ptr rm] #[], .chan none, .chan none, .chan none, .chan none, .chan none, .int .i64 (n : Nat), .int .i64 (i : Nat), .chan none, .chan none, .chan none, .chan none, .chan none, .chan none, .chan none, .chan none, .chan none, .chan none]) (n := n) rfl ⟨0, rfl, by omega, rfl, rfl⟩ ?_
  rintro q a L' ⟨i, rfl, hi, rfl, rfl⟩
  repeat refine LS.seq ?_
  refine LS.region rfl ?_
  refine OS.pure rfl (fun _ => rfl) rfl ?_
  refine OS.nil ?_
  repeat refine LS.seq ?_
  refine LS.cond rfl (fun hc => ?_) (fun hc => ?_)
  · have hc : (i : Int) < n := lt_of hc
    have hin : i < n := by omega
    have hget : l[i]? = some l[i] := List.getElem?_eq_getElem (by omega)
    have htk : (decide (0 ≤ ((l[i] : Nat) : Int) ∧ ((l[i] : Nat) : Int) < T.length) && Z.tkn T ((l[i] : Nat) : Int).toNat) = false := by
      rw [Int.toNat_natCast, hf _ (List.getElem_mem (by omega)), Bool.and_false]
    refine LS.skip ?_
    repeat refine LS.seq ?_
    refine LS.block ?_
    repeat refine LS.seq ?_
    refine LS.region rfl ?_
    refine OS.pure rfl (fun _ => rfl) rfl ?_
    refine OS.pure rfl (fun _ => rfl) rfl ?_
    refine OS.nil ?_
    repeat refine LS.seq ?_
    refine LS.region rfl ?_
    refine OS.pure rfl (fun _ => rfl) rfl ?_
    refine OS.pure rfl (fun _ => rfl) rfl ?_
    refine OS.pure rfl (fun _ => rfl) rfl ?_
    refine OS.at1 (j := i) ((hl.cons.cons)) ((show _ = some (Value.int .i64 (l[i] : Nat)) by simp [hget])) rfl rfl rfl rfl rfl rfl (fun ra0 oa0 rowa0 csa0 ma0 ca0 ga0 => ⟨_, rfl, ?_⟩)
    refine OS.read rfl (e_loadm ma0 ca0 rfl rfl (part_one rfl ga0)) rfl ?_
    refine OS.call noGo rfl (fun _ => rfl) ((Z.Taken_ct hT (l[i] : Nat)).mono ?_)
    rintro v L' ⟨rfl, rfl⟩
    rw [htk]
    refine ⟨_, rfl, ?_⟩
    refine OS.nil ?_
    refine LS.cond rfl (fun hc => by cases hc) (fun hc => ?_)
    refine LS.skip ?_
    repeat refine LS.seq ?_
    refine LS.region rfl ?_
    refine OS.pure rfl (e_add rfl rfl rfl (in_i64 (by omega) (by omega))) rfl ?_
    refine OS.pure rfl (fun _ => rfl) rfl ?_
    refine OS.nil ?_
    exact ⟨n - (i + 1), by omega, i + 1, rfl, by omega, rfl, rfl⟩
  have hc : (n : Int) ≤ i := nlt_of hc
  refine LS.exit ?_
  repeat refine LS.seq ?_
  refine LS.region rfl ?_
  refine OS.pure rfl (fun _ => rfl) rfl ?_
  refine OS.nil ?_
  refine LS.ret ⟨_, fun _ _ => rfl, ?_⟩
  exact ⟨rfl, rfl⟩
/-- The first block of a list is taken. -/
theorem index_taken {F : RL} {rm rf n x : Nat} {T : List Bool} {lv : Value} {l : List Nat} (hT : T.length ≤ 32768) (hl : SV 1 F lv n (ints l)) (hx : l[0]? = some x) (hxl : x < T.length) (ht : Z.tkn T x = true) :
    CS Try.prog 76 [lv, .func (.func 30) #[ptr rm] #[]] (Z.fm rm rf T F) fun v L' => v = .int .i64 0 ∧ L' = Z.fm rm rf T F := by
  have hln : l.length = n := by have := hl.len; simp at this; exact this
  have h0 : 0 < n := by have := (List.getElem?_eq_some_iff.1 hx).1; omega
  have htk : (decide (0 ≤ ((x : Nat) : Int) ∧ ((x : Nat) : Int) < T.length) && Z.tkn T ((x : Nat) : Int).toNat) = true := by
    rw [Int.toNat_natCast, ht, Bool.and_true, decide_eq_true (by omega)]
  refine CS.mk (fn := Try.f76) rfl rfl rfl rfl ?_
  repeat refine LS.seq ?_
  refine LS.region rfl ?_
  refine OS.pure rfl (fun _ => rfl) rfl ?_
  refine OS.nil ?_
  repeat refine LS.seq ?_
  refine LS.region rfl ?_
  refine OS.pure rfl (fun _ => rfl) rfl ?_
  refine OS.pure rfl (e_len hl rfl rfl rfl rfl rfl) rfl ?_
  refine OS.pure rfl (fun _ => rfl) rfl ?_
  refine OS.nil ?_
  repeat refine LS.seq ?_
  refine LS.block ?_
  refine LS.loopJ [0, 1, 7, 8] (fun q a L' => q = 0 ∧ L' = Z.fm rm rf T F ∧
    a = [lv, .func (.func 30) #[ptr rm] #[], .chan none, .chan none, .chan none, .chan none, .chan none, .int .i64 (n : Nat), .int .i64 0, .chan none, .chan none, .chan none, .chan none, .chan none, .chan none, .chan none, .chan none, .chan none, .chan none]) (n := 0) rfl ⟨rfl, rfl, rfl⟩ ?_
  rintro q a L' ⟨rfl, rfl, rfl⟩
  have hb : (!ileB (n : Int) 0) = true := by rw [ileB_eq]; simp; omega
  repeat refine LS.seq ?_
  refine LS.region rfl ?_
  refine OS.pure rfl (e_is (fun _ => rfl) (congrArg Value.bool hb)) rfl ?_
  refine OS.nil ?_
  refine LS.seq ?_
  refine LS.cond rfl (fun hc => ?_) (fun hc => by cases hc)
  refine LS.skip ?_
  repeat refine LS.seq ?_
  refine LS.block ?_
  repeat refine LS.seq ?_
  refine LS.region rfl ?_
  refine OS.pure rfl (fun _ => rfl) rfl ?_
  refine OS.pure rfl (fun _ => rfl) rfl ?_
  refine OS.nil ?_
  repeat refine LS.seq ?_
  refine LS.region rfl ?_
  refine OS.pure rfl (fun _ => rfl) rfl ?_
  refine OS.pure rfl (fun _ => rfl) rfl ?_
  refine OS.pure rfl (fun _ => rfl) rfl ?_
  refine OS.at1 (j := 0) ((hl.cons.cons)) ((show _ = some (Value.int .i64 (x : Nat)) by simp [hx])) rfl rfl rfl rfl rfl rfl (fun ra0 oa0 rowa0 csa0 ma0 ca0 ga0 => ⟨_, rfl, ?_⟩)
  refine OS.read rfl (e_loadm ma0 ca0 rfl rfl (part_one rfl ga0)) rfl ?_
  refine OS.call noGo rfl (fun _ => rfl) ((Z.Taken_ct hT (x : Nat)).mono ?_)
  rintro v L' ⟨rfl, rfl⟩
  rw [htk]
  refine ⟨_, rfl, ?_⟩
  refine OS.nil ?_
  refine LS.cond rfl (fun hc => ?_) (fun hc => by cases hc)
  repeat refine LS.seq ?_
  refine LS.region rfl ?_
  refine OS.pure rfl (fun _ => rfl) rfl ?_
  refine OS.pure rfl (fun _ => rfl) rfl ?_
  refine OS.nil ?_
  refine LS.ret ⟨_, fun _ _ => rfl, ?_⟩
  exact ⟨rfl, rfl⟩
theorem contains_of {L : RL} {lv fv : Value} {j : Int} (h : CS Try.prog 76 [lv, fv] L fun v L' => v = .int .i64 j ∧ L' = L) :
    CS Try.prog 49 [lv, fv] L fun v L' => v = .bool (ileB 0 j) ∧ L' = L := by
  refine CS.mk (fn := Try.f49) rfl rfl rfl rfl ?_
  repeat refine LS.seq ?_
  refine LS.region rfl ?_
  refine OS.pure rfl (fun _ => rfl) rfl ?_
  refine OS.nil ?_
  repeat refine LS.seq ?_
  refine LS.region rfl ?_
  refine OS.pure rfl (fun _ => rfl) rfl ?_
  refine OS.pure rfl (fun _ => rfl) rfl ?_
  refine OS.call noGo rfl (fun _ => rfl) ((h).mono ?_)
  rintro v L' ⟨rfl, rfl⟩
  refine ⟨_, rfl, ?_⟩
  refine OS.pure rfl (fun _ => rfl) rfl ?_
  refine OS.pure rfl (fun _ => rfl) rfl ?_
  refine OS.nil ?_
  refine LS.ret ⟨_, fun _ _ => rfl, ?_⟩
  exact ⟨rfl, rfl⟩
/-- The blocks of a list are taken. -/
def claimL (T : List Bool) (l : List Nat) : List Bool := l.foldl (fun T i => Z.claimS T (i : Nat)) T
theorem claimL_len : ∀ {l : List Nat} {T : List Bool}, (claimL T l).length = T.length
  | [], T => rfl
  | x :: l, T => by
    show (claimL (Z.claimS T (x : Nat)) l).length = _
    rw [claimL_len, Z.claimS_len]
theorem Claim_ct {c : Whr} {s : Dk} {T : List Bool} {F : RL} {l : List Nat} {data : List UInt8} {id : Nat} (hB : Bok c s T) (hd : s.dead = false) (hV : Val s.D c.base T.length l data) (hid : l[0]? = some id) (hf : ∀ x ∈ l, Z.tkn T x = false) :
    CS Try.prog 25 [ptr c.rD, .int .i64 (id : Nat)] (bl c s T F) fun v L' => v = .int .i64 0 ∧ L' = bl c s (claimL T l) F := by
  have hnl := need_le (n := data.length) (by have := hV.dl; omega)
  have hlen := hV.len
  have hidl : id < T.length := hV.lt _ (List.mem_of_getElem? hid)
  have hT := hB.len
  have hb1 : (!ileB 0 (id : Int)) = false := by rw [ileB_eq]; simp
  have hb2 : ileB (T.length : Int) (id : Nat) = false := by rw [ileB_eq]; simp; omega
  suffices h : CS Try.prog 25 [ptr c.rD, .int .i64 (id : Nat)] (bl c s T F) fun v L' => v = .int .i64 0 ∧ ∃ x, L' = bl c s (claimL T l) (x :: F) by
    exact h.less fun v L' ⟨h1, x, h2⟩ => ⟨_, by rw [h2]; exact Sub.sums2 (A := bl c s (claimL T l) F) [x] fun f => by simp [bl, Z.fm] <;> omega, h1, rfl⟩
  refine CS.mk (fn := Try.f25) rfl rfl rfl rfl ?_
  repeat refine LS.seq ?_
  refine LS.region rfl ?_
  refine OS.pure rfl (fun _ => rfl) rfl ?_
  refine OS.nil ?_
  repeat refine LS.seq ?_
  refine LS.region rfl ?_
  refine OS.pure rfl (fun _ => rfl) rfl ?_
  refine OS.call noGo rfl (fun _ => rfl) ((bRefusal_ct).mono ?_)
  rintro v L' ⟨rfl, rfl⟩
  rw [hd]
  refine ⟨_, rfl, ?_⟩
  refine OS.pure rfl (fun _ => rfl) rfl ?_
  refine OS.nil ?_
  repeat refine LS.seq ?_
  refine LS.region rfl ?_
  refine OS.pure rfl (fun _ => rfl) rfl ?_
  refine OS.pure rfl (fun _ => rfl) rfl ?_
  refine OS.nil ?_
  refine LS.cond rfl (fun hc => by cases hc) (fun hc => ?_)
  refine LS.skip ?_
  repeat refine LS.seq ?_
  refine LS.region rfl ?_
  refine OS.pure rfl (fun _ => rfl) rfl ?_
  refine OS.pure rfl (e_is (fun _ => rfl) (congrArg Value.bool hb1)) rfl ?_
  refine OS.pure rfl (fun _ => rfl) rfl ?_
  refine OS.pure rfl (fun _ => rfl) rfl ?_
  refine OS.pure rfl (fun _ => rfl) rfl ?_
  refine OS.pure rfl (fun _ => rfl) rfl ?_
  refine OS.pure rfl (fun _ => rfl) rfl ?_
  refine OS.read rfl (e_load 0 rfl rfl rfl rfl rfl) rfl ?_
  refine OS.sub (Sub.pulls [5, 5] rfl) ?_
  refine OS.call noGo rfl (fun _ => rfl) ((Z.Len_ct).mono ?_)
  rintro v L' ⟨rfl, rfl⟩
  refine ⟨_, rfl, ?_⟩
  refine OS.sub (Sub.pulls [5, 5, 5, 5] rfl) ?_
  refine OS.pure rfl (e_is (fun _ => rfl) (congrArg Value.bool hb2)) rfl ?_
  refine OS.pure rfl (fun _ => rfl) rfl ?_
  refine OS.nil ?_
  refine LS.cond rfl (fun hc => by cases hc) (fun hc => ?_)
  refine LS.skip ?_
  repeat refine LS.seq ?_
  refine LS.region rfl ?_
  refine OS.pure rfl (fun _ => rfl) rfl ?_
  refine OS.pure rfl (fun _ => rfl) rfl ?_
  refine OS.call noGo rfl (fun _ => rfl) ((stands_ct hB hd hV hid).mono ?_)
  rintro v L' ⟨q, rfl, rfl⟩
  refine ⟨_, rfl, ?_⟩
  refine OS.pure rfl (fun _ => rfl) rfl ?_
  refine OS.pure rfl (fun _ => rfl) rfl ?_
  refine OS.pure rfl (fun _ => rfl) rfl ?_
  refine OS.pure rfl (fun _ => rfl) rfl ?_
  refine OS.pure rfl (fun _ => rfl) rfl ?_
  refine OS.pure rfl (fun _ => rfl) rfl ?_
  refine OS.pure rfl (fun _ => rfl) rfl ?_
  refine OS.nil ?_
  repeat refine LS.seq ?_
  refine LS.region rfl ?_
  refine OS.pure rfl (fun _ => rfl) rfl ?_
  refine OS.pure rfl (fun _ => rfl) rfl ?_
  refine OS.nil ?_
  refine LS.cond rfl (fun hc => by cases hc) (fun hc => ?_)
  refine LS.skip ?_
  have hsl : ∀ X, (q, ARow.cells 3 (ints l)) ∈ X → SV 1 X (.slice (some ⟨q, 0, none⟩) l.length openCap) l.length (ints l) := fun X hX => SV.row hX (by simp)
  repeat refine LS.seq ?_
  refine LS.region rfl ?_
  refine OS.pure rfl (fun _ => rfl) rfl ?_
  refine OS.pure rfl (fun _ => rfl) rfl ?_
  refine OS.pure rfl (fun _ => rfl) rfl ?_
  refine OS.pure rfl (fun _ => rfl) rfl ?_
  refine OS.read rfl (e_load 0 rfl rfl rfl rfl rfl) rfl ?_
  refine OS.pure rfl (fun _ => rfl) rfl ?_
  refine OS.sub (Sub.pulls [5, 5] rfl) ?_
  refine OS.call noGo rfl (fun _ => rfl) ((contains_of (index_free hT (hsl _ (by simp)) (by omega) hf)).mono ?_)
  rintro v L' ⟨rfl, rfl⟩
  refine ⟨_, rfl, ?_⟩
  refine OS.sub (Sub.pulls [5, 5, 5, 5] rfl) ?_
  refine OS.nil ?_
  refine LS.cond rfl (fun hc => by cases hc) (fun hc => ?_)
  refine LS.skip ?_
  repeat refine LS.seq ?_
  refine LS.region rfl ?_
  refine OS.pure rfl (fun _ => rfl) rfl ?_
  refine OS.pure rfl (fun _ => rfl) rfl ?_
  refine OS.pure rfl (fun _ => rfl) rfl ?_
  refine OS.nil ?_
  refine LS.mid [] (fun a L' => L' = bl c s (claimL T l) ((q, .cells 3 (ints l)) :: F) ∧ a = [.chan none, .chan none, .chan none, .chan none, .chan none, .chan none, .chan none, .chan none, .chan none, .chan none, .chan none, .chan none, .chan none, .chan none, .chan none, .chan none, .chan none, .chan none, .chan none, .chan none, .chan none, .chan none, .chan none, .chan none, .chan none, .chan none, .chan none, .chan none, .chan none, .chan none, .chan none, .chan none, .chan none, .chan none, .chan none, .chan none, .chan none, .chan none, .chan none, .chan none, .chan none, .chan none, .chan none, .chan none, .chan none, .chan none, .chan none, .chan none, .chan none, .chan none, .chan none, .chan none, .chan none, .chan none, .chan none, .chan none, .chan none]) ?_ ?_
  · refine LS.block ?_
    refine LS.loopJ [0, 44, 45, 46] (fun k a L' => ∃ i, k = l.length - i ∧ i ≤ l.length ∧ L' = bl c s (claimL T (l.take i)) ((q, .cells 3 (ints l)) :: F) ∧
      a = [ptr c.rD, .chan none, .chan none, .chan none, .chan none, .chan none, .chan none, .chan none, .chan none, .chan none, .chan none, .chan none, .chan none, .chan none, .chan none, .chan none, .chan none, .chan none, .chan none, .chan none, .chan none, .chan none, .chan none, .chan none, .chan none, .chan none, .chan none, .chan none, .chan none, .chan none, .chan none, .chan none, .chan none, .chan none, .chan none, .chan none, .chan none, .chan none, .chan none, .chan none, .chan none, .chan none, .chan none, .chan none, .slice (some ⟨q, 0, none⟩) l.length openCap, .int .i64 (l.length : Nat), .int .i64 (i : Nat), .chan none, .chan none, .chan none, .chan none, .chan none, .chan none, .chan none, .chan none, .chan none, .chan none]) (n := l.length) rfl ⟨0, rfl, by omega, rfl, rfl⟩ ?_
    rintro k a L' ⟨i, rfl, hi, rfl, rfl⟩
    repeat refine LS.seq ?_
    refine LS.region rfl ?_
    refine OS.pure rfl (fun _ => rfl) rfl ?_
    refine OS.nil ?_
    repeat refine LS.seq ?_
    refine LS.cond rfl (fun hc => ?_) (fun hc => ?_)
    · have hc : (i : Int) < l.length := lt_of hc
      have hin : i < l.length := by omega
      have hget : l[i]? = some l[i] := List.getElem?_eq_getElem (by omega)
      refine LS.skip ?_
      repeat refine LS.seq ?_
      refine LS.block ?_
      repeat refine LS.seq ?_
      refine LS.region rfl ?_
      refine OS.at1 (j := i) ((hsl _ (by simp))) ((show _ = some (Value.int .i64 (l[i] : Nat)) by simp [hget])) rfl rfl rfl rfl rfl rfl (fun ra0 oa0 rowa0 csa0 ma0 ca0 ga0 => ⟨_, rfl, ?_⟩)
      refine OS.read rfl (e_loadm ma0 ca0 rfl rfl (part_one rfl ga0)) rfl ?_
      refine OS.pure rfl (fun _ => rfl) rfl ?_
      refine OS.nil ?_
      repeat refine LS.seq ?_
      refine LS.region rfl ?_
      refine OS.pure rfl (fun _ => rfl) rfl ?_
      refine OS.pure rfl (fun _ => rfl) rfl ?_
      refine OS.pure rfl (fun _ => rfl) rfl ?_
      refine OS.read rfl (e_load 0 rfl rfl rfl rfl rfl) rfl ?_
      refine OS.pure rfl (fun _ => rfl) rfl ?_
      refine OS.sub (Sub.pulls [5, 5] rfl) ?_
      refine OS.call noGo rfl (fun _ => rfl) ((Z.Claim_ct (by rw [claimL_len]; exact hT) (l[i] : Nat)).mono ?_)
      rintro v L' ⟨rfl, rfl⟩
      have e : Z.claimS (claimL T (l.take i)) (l[i] : Nat) = claimL T (l.take (i + 1)) := by
        rw [List.take_add_one, hget]
        unfold claimL
        rw [List.foldl_append]
        rfl
      rw [e]
      refine ⟨_, rfl, ?_⟩
      refine OS.sub (Sub.pulls [5, 5, 5, 5] rfl) ?_
      refine OS.nil ?_
      repeat refine LS.seq ?_
      refine LS.region rfl ?_
      refine OS.pure rfl (e_add rfl rfl rfl (in_i64 (by omega) (by omega))) rfl ?_
      refine OS.pure rfl (fun _ => rfl) rfl ?_
      refine OS.nil ?_
      exact ⟨l.length - (i + 1), by omega, i + 1, rfl, by omega, rfl, rfl⟩
    have hc : (l.length : Int) ≤ i := nlt_of hc
    have hin : i = l.length := by omega
    rw [hin, List.take_length]
    refine LS.exit ?_
    exact ⟨rfl, rfl⟩
  rintro a L' ⟨rfl, rfl⟩
  repeat refine LS.seq ?_
  refine LS.region rfl ?_
  refine OS.pure rfl (fun _ => rfl) rfl ?_
  refine OS.nil ?_
  refine LS.ret ⟨_, fun _ _ => rfl, ?_⟩
  exact ⟨rfl, _, rfl⟩
/-- A value whose first block is taken. -/
theorem Claim_twice {c : Whr} {s : Dk} {T : List Bool} {F : RL} {l : List Nat} {data : List UInt8} {id : Nat} (hB : Bok c s T) (hd : s.dead = false) (hV : Val s.D c.base T.length l data) (hid : l[0]? = some id) (ht : Z.tkn T id = true) :
    CS Try.prog 25 [ptr c.rD, .int .i64 (id : Nat)] (bl c s T F) fun v L' => v = .int .i64 6 ∧ L' = bl c s T F := by
  have hnl := need_le (n := data.length) (by have := hV.dl; omega)
  have hlen := hV.len
  have hidl : id < T.length := hV.lt _ (List.mem_of_getElem? hid)
  have hT := hB.len
  have hb1 : (!ileB 0 (id : Int)) = false := by rw [ileB_eq]; simp
  have hb2 : ileB (T.length : Int) (id : Nat) = false := by rw [ileB_eq]; simp; omega
  suffices h : CS Try.prog 25 [ptr c.rD, .int .i64 (id : Nat)] (bl c s T F) fun v L' => v = .int .i64 6 ∧ ∃ x, L' = bl c s T (x :: F) by
    exact h.less fun v L' ⟨h1, x, h2⟩ => ⟨_, by rw [h2]; exact Sub.sums2 (A := bl c s T F) [x] fun f => by simp [bl, Z.fm] <;> omega, h1, rfl⟩
  refine CS.mk (fn := Try.f25) rfl rfl rfl rfl ?_
  repeat refine LS.seq ?_
  refine LS.region rfl ?_
  refine OS.pure rfl (fun _ => rfl) rfl ?_
  refine OS.nil ?_
  repeat refine LS.seq ?_
  refine LS.region rfl ?_
  refine OS.pure rfl (fun _ => rfl) rfl ?_
  refine OS.call noGo rfl (fun _ => rfl) ((bRefusal_ct).mono ?_)
  rintro v L' ⟨rfl, rfl⟩
  rw [hd]
  refine ⟨_, rfl, ?_⟩
  refine OS.pure rfl (fun _ => rfl) rfl ?_
  refine OS.nil ?_
  repeat refine LS.seq ?_
  refine LS.region rfl ?_
  refine OS.pure rfl (fun _ => rfl) rfl ?_
  refine OS.pure rfl (fun _ => rfl) rfl ?_
  refine OS.nil ?_
  refine LS.cond rfl (fun hc => by cases hc) (fun hc => ?_)
  refine LS.skip ?_
  repeat refine LS.seq ?_
  refine LS.region rfl ?_
  refine OS.pure rfl (fun _ => rfl) rfl ?_
  refine OS.pure rfl (e_is (fun _ => rfl) (congrArg Value.bool hb1)) rfl ?_
  refine OS.pure rfl (fun _ => rfl) rfl ?_
  refine OS.pure rfl (fun _ => rfl) rfl ?_
  refine OS.pure rfl (fun _ => rfl) rfl ?_
  refine OS.pure rfl (fun _ => rfl) rfl ?_
  refine OS.pure rfl (fun _ => rfl) rfl ?_
  refine OS.read rfl (e_load 0 rfl rfl rfl rfl rfl) rfl ?_
  refine OS.sub (Sub.pulls [5, 5] rfl) ?_
  refine OS.call noGo rfl (fun _ => rfl) ((Z.Len_ct).mono ?_)
  rintro v L' ⟨rfl, rfl⟩
  refine ⟨_, rfl, ?_⟩
  refine OS.sub (Sub.pulls [5, 5, 5, 5] rfl) ?_
  refine OS.pure rfl (e_is (fun _ => rfl) (congrArg Value.bool hb2)) rfl ?_
  refine OS.pure rfl (fun _ => rfl) rfl ?_
  refine OS.nil ?_
  refine LS.cond rfl (fun hc => by cases hc) (fun hc => ?_)
  refine LS.skip ?_
  repeat refine LS.seq ?_
  refine LS.region rfl ?_
  refine OS.pure rfl (fun _ => rfl) rfl ?_
  refine OS.pure rfl (fun _ => rfl) rfl ?_
  refine OS.call noGo rfl (fun _ => rfl) ((stands_ct hB hd hV hid).mono ?_)
  rintro v L' ⟨q, rfl, rfl⟩
  refine ⟨_, rfl, ?_⟩
  refine OS.pure rfl (fun _ => rfl) rfl ?_
  refine OS.pure rfl (fun _ => rfl) rfl ?_
  refine OS.pure rfl (fun _ => rfl) rfl ?_
  refine OS.pure rfl (fun _ => rfl) rfl ?_
  refine OS.pure rfl (fun _ => rfl) rfl ?_
  refine OS.pure rfl (fun _ => rfl) rfl ?_
  refine OS.pure rfl (fun _ => rfl) rfl ?_
  refine OS.nil ?_
  repeat refine LS.seq ?_
  refine LS.region rfl ?_
  refine OS.pure rfl (fun _ => rfl) rfl ?_
  refine OS.pure rfl (fun _ => rfl) rfl ?_
  refine OS.nil ?_
  refine LS.cond rfl (fun hc => by cases hc) (fun hc => ?_)
  refine LS.skip ?_
  repeat refine LS.seq ?_
  refine LS.region rfl ?_
  refine OS.pure rfl (fun _ => rfl) rfl ?_
  refine OS.pure rfl (fun _ => rfl) rfl ?_
  refine OS.pure rfl (fun _ => rfl) rfl ?_
  refine OS.pure rfl (fun _ => rfl) rfl ?_
  refine OS.read rfl (e_load 0 rfl rfl rfl rfl rfl) rfl ?_
  refine OS.pure rfl (fun _ => rfl) rfl ?_
  refine OS.sub (Sub.pulls [5, 5] rfl) ?_
  refine OS.call noGo rfl (fun _ => rfl) ((contains_of (index_taken hT (SV.row (e := 3) (r := q) (n := l.length) (by simp) (by simp)) hid hidl ht)).mono ?_)
  rintro v L' ⟨rfl, rfl⟩
  refine ⟨_, rfl, ?_⟩
  refine OS.sub (Sub.pulls [5, 5, 5, 5] rfl) ?_
  refine OS.nil ?_
  refine LS.cond rfl (fun hc => ?_) (fun hc => by cases hc)
  repeat refine LS.seq ?_
  refine LS.region rfl ?_
  refine OS.pure rfl (fun _ => rfl) rfl ?_
  refine OS.nil ?_
  refine LS.ret ⟨_, fun _ _ => rfl, ?_⟩
  exact ⟨rfl, _, rfl⟩
end Go.Proofs.Yteiiekfccecoiaa
