/- Layer 8: a value is read. -/
import Derived.Test.YteiiekfccecoiaaBi
namespace Go.Proofs.Yteiiekfccecoiaa
open Go.Am
set_option linter.unusedVariables false
set_option maxRecDepth 20000

/-- On these blocks that value stands. -/
structure Val (D : List UInt8) (base m : Nat) (l : List Nat) (data : List UInt8) : Prop where
  len : l.length = need data.length
  dl : data.length ≤ 1000000
  lt : ∀ x ∈ l, x < m
  rise : ∀ k x y, l[k]? = some x → l[k + 1]? = some y → x < y
  on : ∀ k x, l[k]? = some x → blk D (base + x) = img l data k
/-- The rows of blocks that were read. -/
def dR (rs : List Nat) (bs : List (List UInt8)) : RL := (rs.zip bs).map fun p => (p.1, .cells 124 (byteCells p.2))
theorem dR_snoc {rs : List Nat} {bs : List (List UInt8)} (h : rs.length = bs.length) (r : Nat) (b : List UInt8) : dR (rs ++ [r]) (bs ++ [b]) = dR rs bs ++ [(r, .cells 124 (byteCells b))] := by
  unfold dR; rw [List.zip_append h]; simp
theorem dR_mem {rs : List Nat} {bs : List (List UInt8)} {k r : Nat} {b : List UInt8} (h3 : rs[k]? = some r) (h4 : bs[k]? = some b) : (r, ARow.cells 124 (byteCells b)) ∈ dR rs bs :=
  List.mem_map.2 ⟨(r, b), List.mem_of_getElem? (i := k) (by rw [List.getElem?_zip_eq_some]; exact ⟨h3, h4⟩), rfl⟩
theorem dR_rd {rs : List Nat} {bs : List (List UInt8)} (h : rs.length = bs.length) (h2 : ∀ b ∈ bs, b.length = 256) : Rd (dR rs bs) rs bs :=
  ⟨h, fun k r b h3 h4 => ⟨h2 b (List.mem_of_getElem? h4), 124, dR_mem h3 h4⟩⟩

theorem read_ct {c : Whr} {s : Dk} {T : List Bool} {F : RL} (hB : Bok c s T) (hd : s.dead = false) (i : Nat) (hi : i < T.length) :
    CS Try.prog 83 [ptr c.rD, .int .i64 (i : Nat)] (bl c s T F) fun v L' => ∃ r, v = .tuple #[bv r, .int .i64 0] ∧ L' = (r, .cells 124 (byteCells (blk s.D (c.base + i)))) :: bl c s T F := by
  obtain ⟨hs, hT, hb1, hb2⟩ := hB
  have hs3 := hs.2.2.1
  refine CS.mk (fn := Try.f83) rfl rfl rfl rfl ?_
  repeat refine LS.seq ?_
  refine LS.region rfl ?_
  refine OS.pure rfl (fun _ => rfl) rfl ?_
  refine OS.pure rfl (fun _ => rfl) rfl ?_
  refine OS.nil ?_
  repeat refine LS.seq ?_
  refine LS.drawn noGo mixed [(0, false), (1, false), (2, false), (3, false), (4, false), (5, false), (6, false), (7, false), (8, false), (9, false), (10, true), (11, false), (12, false), (13, false), (14, false)] rfl rfl (by kernel_rfl) ?_
  refine ODS.pure rfl rfl (fun _ => rfl) rfl ?_
  refine ODS.pure rfl rfl (fun _ => rfl) rfl ?_
  refine ODS.pure rfl rfl (fun _ => rfl) rfl ?_
  refine ODS.read rfl rfl (e_load 0 rfl rfl rfl rfl rfl) rfl ?_
  refine ODS.pure rfl rfl (fun _ => rfl) rfl ?_
  refine ODS.pure rfl rfl (fun _ => rfl) rfl ?_
  refine ODS.pure rfl rfl (fun _ => rfl) rfl ?_
  refine ODS.read rfl rfl (e_load 0 rfl rfl rfl rfl rfl) rfl ?_
  refine ODS.pure rfl rfl (fun _ => rfl) rfl ?_
  refine ODS.pure rfl rfl (e_is (e_add (k := .i64) (m := ((c.base : Nat) : Int)) (n := ((i : Nat) : Int)) rfl rfl rfl (in_i64 (by omega) (by omega))) (congrArg (Value.int .i64) (show ((c.base : Nat) : Int) + ((i : Nat) : Int) = ((c.base + i : Nat) : Int) by omega))) rfl ?_
  refine ODS.sub (Sub.pulls [3, 3, 3] rfl) ?_
  refine ODS.call rfl rfl (fun _ => rfl) ((jRead_ct hs hd (c.base + i) (by unfold plainP; omega)).mono ?_)
  rintro v L' ⟨r, rfl, rfl⟩
  refine ⟨_, rfl, Keep.gone rfl (Keep.gone rfl Keep.nil), ?_⟩
  refine ODS.sub (Sub.pulls [4, 1] rfl) ?_
  refine ODS.pure rfl rfl (fun _ => rfl) rfl ?_
  refine ODS.pure rfl rfl (fun _ => rfl) rfl ?_
  refine ODS.pure rfl rfl (fun _ => rfl) rfl ?_
  refine ODS.pure rfl rfl (fun _ => rfl) rfl ?_
  refine ODS.nil ?_
  refine LS.ret ⟨_, fun _ _ => rfl, ?_⟩
  exact ⟨r, rfl, rfl⟩

theorem ring_ct {c : Whr} {s : Dk} {T : List Bool} {F : RL} {l : List Nat} {data : List UInt8} {n id : Nat} (hB : Bok c s T) (hd : s.dead = false) (hV : Val s.D c.base T.length l data) (hn : n = l.length) (hid : l[0]? = some id) :
    CS Try.prog 70 [ptr c.rD, .int .i64 (id : Nat)] (bl c s T F) fun v L' => ∃ q1 q2 rs, v = .tuple #[.slice (some ⟨q1, 0, none⟩) n openCap, .slice (some ⟨q2, 0, none⟩) n openCap, .int .i64 0] ∧ rs.length = n ∧
      L' = bl c s T ((q1, .cells 3 (ints l)) :: (q2, .cells 73 (rs.map bv)) :: (dR rs (imgs l data (sumV l data)) ++ F)) := by
  have hB0 := hB
  obtain ⟨hs, hT, hb1, hb2⟩ := hB0
  obtain ⟨hlen, hdl, hlt, hrise, hat⟩ := hV
  have hn2 := need_two data.length
  have hnl := need_le (n := data.length) (by omega)
  have hidl : id < T.length := hlt _ (List.mem_of_getElem? hid)
  have hlk : ∀ k, linkB l k < 65536 := fun k => by
    unfold linkB
    rw [List.getElem?_eq_getElem (Nat.mod_lt _ (by omega)), Option.getD_some]
    have := hlt _ (List.getElem_mem (Nat.mod_lt (k + 1) (show 0 < l.length by omega)))
    omega
  obtain ⟨B, hBdef⟩ : ∃ B, B = imgs l data (sumV l data) := ⟨_, rfl⟩
  have hBl : B.length = n := by rw [hBdef, imgs_len, hn]
  have hBat : ∀ k, k < n → B[k]? = some (img l data k) := fun k hk => by rw [hBdef]; exact imgs_at (by omega)
  rw [← hBdef]
  refine CS.mk (fn := Try.f70) rfl rfl rfl rfl ?_
  repeat refine LS.seq ?_
  refine LS.region rfl ?_
  refine OS.pure rfl (fun _ => rfl) rfl ?_
  refine OS.pure rfl (fun _ => rfl) rfl ?_
  refine OS.pure rfl (fun _ => rfl) rfl ?_
  refine OS.nil ?_
  repeat refine LS.seq ?_
  refine LS.region rfl ?_
  refine OS.pure rfl (fun _ => rfl) rfl ?_
  refine OS.pure rfl (fun _ => rfl) rfl ?_
  refine OS.call noGo rfl (fun _ => rfl) ((read_ct hB hd id hidl).mono ?_)
  rintro v L' ⟨r0, rfl, rfl⟩
  rw [hat 0 id hid]
  refine ⟨_, rfl, ?_⟩
  refine OS.pure rfl (fun _ => rfl) rfl ?_
  refine OS.pure rfl (fun _ => rfl) rfl ?_
  refine OS.pure rfl (fun _ => rfl) rfl ?_
  refine OS.pure rfl (fun _ => rfl) rfl ?_
  refine OS.pure rfl (fun _ => rfl) rfl ?_
  refine OS.nil ?_
  repeat refine LS.seq ?_
  refine LS.region rfl ?_
  refine OS.pure rfl (fun _ => rfl) rfl ?_
  refine OS.pure rfl (fun _ => rfl) rfl ?_
  refine OS.nil ?_
  refine LS.cond rfl (fun hc => by cases hc) (fun hc => ?_)
  refine LS.skip ?_
  repeat refine LS.seq ?_
  refine LS.region rfl ?_
  refine OS.pure rfl (fun _ => rfl) rfl ?_
  refine OS.fresh rfl (e_new (fun _ => rfl) rfl) (fun _ => rfl) (fun q1 => ?_)
  refine OS.pure rfl (fun _ => rfl) rfl ?_
  refine OS.fresh rfl (e_new (fun _ => rfl) rfl) (fun _ => rfl) (fun q2 => ?_)
  refine OS.pure rfl (fun _ => rfl) rfl ?_
  refine OS.call noGo rfl (fun _ => rfl) ((sizeIn_ct (D := img l data 0) (List.mem_cons_of_mem _ (List.mem_cons_of_mem _ (List.mem_cons_self ..))) (imgB_len ..)).mono ?_)
  rintro v L' ⟨rfl, rfl⟩
  rw [img_size (by omega)]
  refine ⟨_, rfl, ?_⟩
  refine OS.call noGo rfl (fun _ => rfl) ((Need_ct data.length (by omega)).mono ?_)
  rintro v L' ⟨rfl, rfl⟩
  rw [← hlen, ← hn]
  refine ⟨_, rfl, ?_⟩
  refine OS.pure rfl (fun _ => rfl) rfl ?_
  refine OS.pure rfl (fun _ => rfl) rfl ?_
  refine OS.pure rfl (fun _ => rfl) rfl ?_
  refine OS.opened 9 1 (sz := 1) rfl rfl rfl (by simp) (by unfold openCap; omega) rfl ?_
  refine OS.opened 10 0 (sz := 1) rfl rfl rfl (by simp) (by unfold openCap; omega) rfl ?_
  have hBt1 : B.take 1 = [img l data 0] := by rw [List.take_add_one, hBat 0 (by omega)]; rfl
  have hl1 : l.take 1 = [id] := by rw [List.take_add_one, hid]; rfl
  refine OS.sub (Sub.sums (A := bl c s T ((q1, .cells 3 (ints (l.take 1))) :: (q2, .cells 73 ([r0].map bv)) :: (dR [r0] (B.take 1) ++ F))) fun f => by rw [hBt1, hl1]; simp [bl, Z.fm, dR] <;> omega) ?_
  refine OS.nil ?_
  refine LS.seq ?_
  refine LS.mid [0, 1, 7, 9, 10] (fun a L' => ∃ q1 q2 rs r, rs.length = n ∧ rs[n - 1]? = some r ∧ L' = bl c s T ((q1, .cells 3 (ints l)) :: (q2, .cells 73 (rs.map bv)) :: (dR rs B ++ F)) ∧
    a = [ptr c.rD, .int .i64 (id : Nat), .chan none, .chan none, .chan none, .chan none, .chan none, bv r, .chan none, .slice (some ⟨q1, 0, none⟩) n openCap, .slice (some ⟨q2, 0, none⟩) n openCap, .chan none, .chan none, .chan none, .chan none, .chan none, .chan none, .chan none, .chan none, .chan none, .chan none, .chan none, .chan none, .chan none, .chan none, .chan none, .chan none, .chan none, .chan none, .chan none, .chan none, .chan none, .chan none, .chan none, .chan none, .chan none, .chan none, .chan none, .chan none, .chan none, .chan none, .chan none, .chan none, .chan none, .chan none, .chan none, .chan none, .chan none, .chan none, .chan none, .chan none, .chan none, .chan none, .chan none, .chan none, .chan none, .chan none, .chan none, .chan none, .chan none, .chan none, .chan none, .chan none, .chan none, .chan none, .chan none, .chan none, .chan none, .chan none, .chan none, .chan none, .chan none, .chan none, .chan none, .chan none]) ?_ ?_
  · refine LS.block ?_
    refine LS.loopJ [0, 1, 7, 9, 10, 11] (fun q a L' => ∃ i q1 q2 rs r, q = n - i ∧ 1 ≤ i ∧ i ≤ n ∧ rs.length = i ∧ rs[i - 1]? = some r ∧ L' = bl c s T ((q1, .cells 3 (ints (l.take i))) :: (q2, .cells 73 (rs.map bv)) :: (dR rs (B.take i) ++ F)) ∧
      a = [ptr c.rD, .int .i64 (id : Nat), .chan none, .chan none, .chan none, .chan none, .chan none, bv r, .chan none, .slice (some ⟨q1, 0, none⟩) i openCap, .slice (some ⟨q2, 0, none⟩) i openCap, .int .i64 (n : Nat), .chan none, .chan none, .chan none, .chan none, .chan none, .chan none, .chan none, .chan none, .chan none, .chan none, .chan none, .chan none, .chan none, .chan none, .chan none, .chan none, .chan none, .chan none, .chan none, .chan none, .chan none, .chan none, .chan none, .chan none, .chan none, .chan none, .chan none, .chan none, .chan none, .chan none, .chan none, .chan none, .chan none, .chan none, .chan none, .chan none, .chan none, .chan none, .chan none, .chan none, .chan none, .chan none, .chan none, .chan none, .chan none, .chan none, .chan none, .chan none, .chan none, .chan none, .chan none, .chan none, .chan none, .chan none, .chan none, .chan none, .chan none, .chan none, .chan none, .chan none, .chan none, .chan none, .chan none]) (n := n - 1) rfl ⟨1, q1, q2, [r0], r0, rfl, by omega, by omega, rfl, rfl, rfl, rfl⟩ ?_
    rintro q a L' ⟨i, q1, q2, rs, r, rfl, h1i, hi, hrl, hr, rfl, rfl⟩
    have hil : (l.take i).length = i := by simp; omega
    repeat refine LS.seq ?_
    refine LS.region rfl ?_
    refine OS.pure rfl (fun _ => rfl) rfl ?_
    refine OS.pure rfl (fun _ => rfl) rfl ?_
    refine OS.pure rfl (fun _ => rfl) rfl ?_
    refine OS.pure rfl (fun _ => rfl) rfl ?_
    refine OS.nil ?_
    repeat refine LS.seq ?_
    refine LS.cond rfl (fun hc => ?_) (fun hc => ?_)
    · have hc : (i : Int) < n := lt_of hc
      have hin : i < n := by omega
      obtain ⟨x, hx⟩ : ∃ x, l[i - 1]? = some x := ⟨_, List.getElem?_eq_getElem (by omega)⟩
      obtain ⟨y, hy⟩ : ∃ y, l[i]? = some y := ⟨_, List.getElem?_eq_getElem (by omega)⟩
      have hxy : x < y := hrise (i - 1) x y hx (by rw [show i - 1 + 1 = i by omega]; exact hy)
      have hyl : y < T.length := hlt _ (List.mem_of_getElem? hy)
      have hly : linkB l (i - 1) = y := by
        rw [linkB_next (by omega)]
        rw [List.getElem?_eq_getElem (by omega)] at hy
        simp only [show i - 1 + 1 = i by omega]
        simpa using hy
      have hmr : (r, ARow.cells 124 (byteCells (img l data (i - 1)))) ∈ dR rs (B.take i) := dR_mem hr (by rw [List.getElem?_take]; rw [if_pos (by omega)]; exact hBat _ (by omega))
      have hb1 : ileB (y : Int) (x : Nat) = false := by rw [ileB_eq]; simp; omega
      have hb2 : ileB (T.length : Int) (y : Nat) = false := by rw [ileB_eq]; simp; omega
      refine LS.skip ?_
      repeat refine LS.seq ?_
      refine LS.block ?_
      repeat refine LS.seq ?_
      refine LS.region rfl ?_
      refine OS.pure rfl (fun _ => rfl) rfl ?_
      refine OS.call noGo rfl (fun _ => rfl) ((linkIn_ct (e := 124) (D := img l data (i - 1)) (by simp [hmr]) (imgB_len ..)).mono ?_)
      rintro v L' ⟨rfl, rfl⟩
      rw [img_link (hlk _), hly]
      refine ⟨_, rfl, ?_⟩
      refine OS.pure rfl (fun _ => rfl) rfl ?_
      refine OS.nil ?_
      repeat refine LS.seq ?_
      refine LS.region rfl ?_
      refine OS.pure rfl (fun _ => rfl) rfl ?_
      refine OS.pure rfl (fun _ => rfl) rfl ?_
      refine OS.pure rfl (fun _ => rfl) rfl ?_
      refine OS.pure rfl (fun _ => rfl) rfl ?_
      refine OS.pure rfl (e_is (e_sub (k := .i64) (m := ((i : Nat) : Int)) (n := 1) rfl rfl rfl (in_i64 (by omega) (by omega))) (congrArg (Value.int .i64) (show ((i : Nat) : Int) - 1 = ((i - 1 : Nat) : Int) by omega))) rfl ?_
      refine OS.pure rfl (e_index (j := i - 1) (sz := 1) rfl rfl rfl rfl rfl (by omega)) rfl ?_
      refine OS.read rfl (e_load 6 rfl rfl rfl rfl (part_one rfl (show _ = some (Value.int .i64 (x : Nat)) by rw [Nat.mul_one, Nat.zero_add, List.getElem?_map, List.getElem?_take, if_pos (by omega), hx]; rfl))) rfl ?_
      refine OS.pure rfl (e_is (fun _ => rfl) (congrArg Value.bool hb1)) rfl ?_
      refine OS.pure rfl (fun _ => rfl) rfl ?_
      refine OS.pure rfl (fun _ => rfl) rfl ?_
      refine OS.pure rfl (fun _ => rfl) rfl ?_
      refine OS.pure rfl (fun _ => rfl) rfl ?_
      refine OS.pure rfl (fun _ => rfl) rfl ?_
      refine OS.read rfl (e_load 0 rfl rfl rfl rfl rfl) rfl ?_
      refine OS.sub (Sub.pulls [5, 5] rfl) ?_
      refine OS.call noGo rfl (fun _ => rfl) ((Z.Len_ct).mono ?_)
      rintro v L' ⟨rfl, rfl⟩
      refine ⟨_, rfl, ?_⟩
      refine OS.sub (Sub.pulls [5, 5, 5, 5] rfl) ?_
      refine OS.pure rfl (e_is (fun _ => rfl) (congrArg Value.bool hb2)) rfl ?_
      refine OS.pure rfl (fun _ => rfl) rfl ?_
      refine OS.nil ?_
      refine LS.cond rfl (fun hc => by cases hc) (fun hc => ?_)
      refine LS.skip ?_
      repeat refine LS.seq ?_
      refine LS.region rfl ?_
      refine OS.pure rfl (fun _ => rfl) rfl ?_
      refine OS.pure rfl (fun _ => rfl) rfl ?_
      refine OS.call noGo rfl (fun _ => rfl) ((read_ct hB hd y hyl).mono ?_)
      rintro v L' ⟨r2, rfl, rfl⟩
      rw [hat i y hy]
      refine ⟨_, rfl, ?_⟩
      refine OS.pure rfl (fun _ => rfl) rfl ?_
      refine OS.pure rfl (fun _ => rfl) rfl ?_
      refine OS.pure rfl (fun _ => rfl) rfl ?_
      refine OS.pure rfl (fun _ => rfl) rfl ?_
      refine OS.pure rfl (fun _ => rfl) rfl ?_
      refine OS.nil ?_
      repeat refine LS.seq ?_
      refine LS.region rfl ?_
      refine OS.pure rfl (fun _ => rfl) rfl ?_
      refine OS.pure rfl (fun _ => rfl) rfl ?_
      refine OS.nil ?_
      refine LS.cond rfl (fun hc => by cases hc) (fun hc => ?_)
      refine LS.skip ?_
      have e1 : ints (l.take (i + 1)) = ints (l.take i) ++ [Value.int .i64 (y : Nat)] := by rw [List.take_add_one, hy]; simp
      have e2 : (rs ++ [r2]).map bv = rs.map bv ++ [bv r2] := by simp
      have e3 : dR (rs ++ [r2]) (B.take (i + 1)) = dR rs (B.take i) ++ [(r2, .cells 124 (byteCells (img l data i)))] := by
        rw [List.take_add_one, hBat i hin]; exact dR_snoc (by simp [hrl]; omega) _ _
      repeat refine LS.seq ?_
      refine LS.region rfl ?_
      refine OS.sub (Sub.pulls [7] rfl) ?_
      refine OS.pure rfl (fun _ => rfl) rfl ?_
      refine OS.pure rfl (fun _ => rfl) rfl ?_
      refine OS.fresh rfl (e_new (fun _ => rfl) rfl) (fun _ => rfl) (fun x1 => ?_)
      refine OS.fresh rfl (e_appendGV [_] (e := 3) (cs := ints (l.take i)) (n := i) (m := 1) (sz := 1) (bts := 8) (GV.of (by simp; omega)) (SV.row (sz := 1) (n := 1) (List.mem_cons_self ..) rfl) (by omega) rfl rfl rfl rfl (by omega) (by omega)) (fun _ => rfl) (fun q3 => ?_)
      refine OS.sub (Sub.drop 1 rfl) ?_
      refine OS.sub (Sub.pulls [8] rfl) ?_
      refine OS.pure rfl (fun _ => rfl) rfl ?_
      refine OS.pure rfl (fun _ => rfl) rfl ?_
      refine OS.fresh rfl (e_new (fun _ => rfl) rfl) (fun _ => rfl) (fun x2 => ?_)
      refine OS.fresh rfl (e_appendGV [_] (e := 73) (cs := rs.map bv) (n := i) (m := 1) (sz := 1) (bts := 24) (GV.of (by simp; omega)) (SV.row (sz := 1) (n := 1) (List.mem_cons_self ..) rfl) (by omega) rfl rfl rfl rfl (by omega) (by omega)) (fun _ => rfl) (fun q4 => ?_)
      refine OS.sub (Sub.drop 1 rfl) ?_
      refine OS.pure rfl (fun _ => rfl) rfl ?_
      refine OS.pure rfl (fun _ => rfl) rfl ?_
      refine OS.sub (Sub.sums (A := bl c s T ((q3, .cells 3 (ints (l.take (i + 1)))) :: (q4, .cells 73 ((rs ++ [r2]).map bv)) :: (dR (rs ++ [r2]) (B.take (i + 1)) ++ F))) fun f => by rw [e1, e2, e3]; simp [bl, Z.fm] <;> omega) ?_
      refine OS.nil ?_
      exact ⟨n - (i + 1), by omega, i + 1, q3, q4, rs ++ [r2], r2, rfl, by omega, by omega, by simp [hrl], by rw [List.getElem?_append_right (by omega), hrl]; simp, rfl, rfl⟩
    have hc : (n : Int) ≤ i := nlt_of hc
    have hin : i = n := by omega
    subst hin
    rw [List.take_of_length_le (by omega), List.take_of_length_le (by omega)]
    refine LS.exit ?_
    exact ⟨q1, q2, rs, r, hrl, hr, rfl, rfl⟩
  rintro a L' ⟨q1, q2, rs, r, hrl, hr, rfl, rfl⟩
  have hl0 : linkB l (n - 1) = id := by
    rw [linkB_last (by omega) (by omega)]
    rw [List.getElem?_eq_getElem (by omega)] at hid
    simpa using hid
  have hmr : (r, ARow.cells 124 (byteCells (img l data (n - 1)))) ∈ dR rs B := dR_mem hr (hBat _ (by omega))
  have hbz : (!ieqB (id : Int) (id : Nat)) = false := by rw [ieqB_eq]; simp
  repeat refine LS.seq ?_
  refine LS.region rfl ?_
  refine OS.pure rfl (fun _ => rfl) rfl ?_
  refine OS.call noGo rfl (fun _ => rfl) ((linkIn_ct (e := 124) (D := img l data (n - 1)) (by simp [hmr]) (imgB_len ..)).mono ?_)
  rintro v L' ⟨rfl, rfl⟩
  rw [img_link (hlk _), hl0]
  refine ⟨_, rfl, ?_⟩
  refine OS.pure rfl (fun _ => rfl) rfl ?_
  refine OS.pure rfl (e_is (fun _ => rfl) (congrArg Value.bool hbz)) rfl ?_
  refine OS.nil ?_
  refine LS.cond rfl (fun hc => by cases hc) (fun hc => ?_)
  refine LS.skip ?_
  repeat refine LS.seq ?_
  refine LS.region rfl ?_
  refine OS.pure rfl (fun _ => rfl) rfl ?_
  refine OS.pure rfl (fun _ => rfl) rfl ?_
  refine OS.pure rfl (fun _ => rfl) rfl ?_
  refine OS.pure rfl (fun _ => rfl) rfl ?_
  refine OS.pure rfl (fun _ => rfl) rfl ?_
  refine OS.nil ?_
  refine LS.ret ⟨_, fun _ _ => rfl, ?_⟩
  exact ⟨q1, q2, rs, rfl, hrl, rfl⟩
end Go.Proofs.Yteiiekfccecoiaa
