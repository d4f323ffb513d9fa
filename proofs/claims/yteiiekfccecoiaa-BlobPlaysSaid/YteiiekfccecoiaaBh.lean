/- Layer 8: a desk, Open, Put. -/
import Derived.Test.YteiiekfccecoiaaBf
namespace Go.Am
theorem ODS.sub {P : Program} {ops : List Oper} {ms : List Nat} {K : Slots → RL → Prop} {sched : List (Nat × Bool)} {dn : Dn} {a : Slots} {L L' : RL} (s : Sub L' L) (k : ODS P ops ms K sched dn a L') : ODS P ops ms K sched dn a L := fun h H => k h (s.has H)
end Go.Am
namespace Go.Proofs.Yteiiekfccecoiaa
open Go.Am
set_option linter.unusedVariables false
set_option maxRecDepth 20000

/-- Where a desk and what it leans on lie. -/
structure Whr where
  rD : Nat
  rj : Nat
  rd : Nat
  rb : Nat
  rm : Nat
  rf : Nat
  base : Nat
abbrev bl (c : Whr) (s : Dk) (T : List Bool) (F : RL) : RL := (c.rD, .cells 78 [ptr c.rj, .int .i64 (c.base : Nat), ptr c.rm]) :: jn c.rj c.rd c.rb s (Z.fm c.rm c.rf T F)
/-- A desk on a disk. -/
structure Bok (c : Whr) (s : Dk) (T : List Bool) : Prop where
  ok : s.ok
  len : T.length ≤ 32768
  lo : 121 < c.base
  hi : c.base + T.length ≤ s.n

theorem Open_ct {F : RL} {rj rd rb rm rf base : Nat} {s : Dk} {T : List Bool} (h1 : 121 < base) (h2 : base + T.length ≤ s.n) (h3 : s.n ≤ 32768) :
    CS Try.prog 11 [ptr rj, .int .i64 (base : Nat), ptr rm] (jn rj rd rb s (Z.fm rm rf T F)) fun v L' => ∃ rD, v = .tuple #[ptr rD, .int .i64 0] ∧ L' = bl ⟨rD, rj, rd, rb, rm, rf, base⟩ s T F := by
  have hb1 : ileB (base : Int) 121 = false := by rw [ileB_eq]; simp; omega
  have hb2 : (!ileB (base : Int) ((s.n - T.length : Nat) : Int)) = false := by rw [ileB_eq]; simp; omega
  refine CS.mk (fn := Try.f11) rfl rfl rfl rfl ?_
  repeat refine LS.seq ?_
  refine LS.region rfl ?_
  refine OS.pure rfl (fun _ => rfl) rfl ?_
  refine OS.pure rfl (fun _ => rfl) rfl ?_
  refine OS.nil ?_
  repeat refine LS.seq ?_
  refine LS.region rfl ?_
  refine OS.pure rfl (fun _ => rfl) rfl ?_
  refine OS.pure rfl (fun _ => rfl) rfl ?_
  refine OS.pure rfl (fun _ => rfl) rfl ?_
  refine OS.pure rfl (fun _ => rfl) rfl ?_
  refine OS.pure rfl (fun _ => rfl) rfl ?_
  refine OS.pure rfl (fun _ => rfl) rfl ?_
  refine OS.nil ?_
  refine LS.cond rfl (fun hc => by cases hc) (fun hc => ?_)
  refine LS.skip ?_
  repeat refine LS.seq ?_
  refine LS.region rfl ?_
  refine OS.pure rfl (fun _ => rfl) rfl ?_
  refine OS.pure rfl (e_is (fun _ => rfl) (congrArg Value.bool hb1)) rfl ?_
  refine OS.pure rfl (fun _ => rfl) rfl ?_
  refine OS.pure rfl (fun _ => rfl) rfl ?_
  refine OS.pure rfl (fun _ => rfl) rfl ?_
  refine OS.call noGo rfl (fun _ => rfl) ((jDisk_ct).mono ?_)
  rintro v L' ⟨rfl, rfl⟩
  refine ⟨_, rfl, ?_⟩
  refine OS.sub (Sub.pulls [2, 2] rfl) ?_
  refine OS.call noGo rfl (fun _ => rfl) ((Len_ct).mono ?_)
  rintro v L' ⟨rfl, rfl⟩
  refine ⟨_, rfl, ?_⟩
  refine OS.pure rfl (fun _ => rfl) rfl ?_
  refine OS.sub (Sub.pulls [4, 4] rfl) ?_
  refine OS.call noGo rfl (fun _ => rfl) ((Z.Len_ct).mono ?_)
  rintro v L' ⟨rfl, rfl⟩
  refine ⟨_, rfl, ?_⟩
  refine OS.pure rfl (e_is (e_sub (k := .i64) (m := ((s.n : Nat) : Int)) (n := ((T.length : Nat) : Int)) rfl rfl rfl (in_i64 (by omega) (by omega))) (congrArg (Value.int .i64) (show ((s.n : Nat) : Int) - ((T.length : Nat) : Int) = ((s.n - T.length : Nat) : Int) by omega))) rfl ?_
  refine OS.pure rfl (e_is (fun _ => rfl) (congrArg Value.bool hb2)) rfl ?_
  refine OS.pure rfl (fun _ => rfl) rfl ?_
  refine OS.sub (Sub.pulls [3, 3, 4] rfl) ?_
  refine OS.nil ?_
  refine LS.cond rfl (fun hc => by cases hc) (fun hc => ?_)
  refine LS.skip ?_
  repeat refine LS.seq ?_
  refine LS.region rfl ?_
  refine OS.pure rfl (fun _ => rfl) rfl ?_
  refine OS.pure rfl (fun _ => rfl) rfl ?_
  refine OS.pure rfl (fun _ => rfl) rfl ?_
  refine OS.pure rfl (fun _ => rfl) rfl ?_
  refine OS.fresh rfl (e_new (fun _ => rfl) rfl) (fun _ => rfl) (fun rD => ?_)
  refine OS.pure rfl (fun _ => rfl) rfl ?_
  refine OS.pure rfl (fun _ => rfl) rfl ?_
  refine OS.nil ?_
  refine LS.ret ⟨_, fun _ _ => rfl, ?_⟩
  exact ⟨rD, rfl, rfl⟩
theorem bRefusal_ct {c : Whr} {s : Dk} {T : List Bool} {F : RL} : CS Try.prog 40 [ptr c.rD] (bl c s T F) fun v L' => v = .int .i64 (if s.dead then 20 else 0) ∧ L' = bl c s T F := by
  refine CS.mk (fn := Try.f40) rfl rfl rfl rfl ?_
  repeat refine LS.seq ?_
  refine LS.region rfl ?_
  refine OS.pure rfl (fun _ => rfl) rfl ?_
  refine OS.nil ?_
  repeat refine LS.seq ?_
  refine LS.region rfl ?_
  refine OS.pure rfl (fun _ => rfl) rfl ?_
  refine OS.pure rfl (fun _ => rfl) rfl ?_
  refine OS.nil ?_
  refine LS.cond rfl (fun hc => by cases hc) (fun hc => ?_)
  refine LS.skip ?_
  repeat refine LS.seq ?_
  refine LS.region rfl ?_
  refine OS.pure rfl (fun _ => rfl) rfl ?_
  refine OS.pure rfl (fun _ => rfl) rfl ?_
  refine OS.pure rfl (fun _ => rfl) rfl ?_
  refine OS.read rfl (e_load 0 rfl rfl rfl rfl rfl) rfl ?_
  refine OS.sub (Sub.pulls [1] rfl) ?_
  refine OS.call noGo rfl (fun _ => rfl) ((jDisk_ct).mono ?_)
  rintro v L' ⟨rfl, rfl⟩
  refine ⟨_, rfl, ?_⟩
  refine OS.sub (Sub.pulls [3, 3] rfl) ?_
  refine OS.call noGo rfl (fun _ => rfl) ((Dead_ct).mono ?_)
  rintro v L' ⟨rfl, rfl⟩
  refine ⟨_, rfl, ?_⟩
  refine OS.sub (Sub.pulls [2, 3] rfl) ?_
  refine OS.nil ?_
  by_cases hdd : s.dead = true
  · rw [hdd]
    refine LS.cond rfl (fun hc => ?_) (fun hc => by cases hc)
    repeat refine LS.seq ?_
    refine LS.region rfl ?_
    refine OS.pure rfl (fun _ => rfl) rfl ?_
    refine OS.nil ?_
    refine LS.ret ⟨_, fun _ _ => rfl, ?_⟩
    exact ⟨rfl, rfl⟩
  · have hdd : s.dead = false := by simpa using hdd
    rw [hdd]
    refine LS.cond rfl (fun hc => by cases hc) (fun hc => ?_)
    refine LS.skip ?_
    repeat refine LS.seq ?_
    refine LS.region rfl ?_
    refine OS.pure rfl (fun _ => rfl) rfl ?_
    refine OS.nil ?_
    refine LS.ret ⟨_, fun _ _ => rfl, ?_⟩
    exact ⟨rfl, rfl⟩

/-- What a Put writes. -/
def putW (base : Nat) (l : List Nat) (data : List UInt8) : List (Int × List UInt8) := (List.range l.length).map fun k => (((base + (l[k]?.getD 0) : Nat) : Int), img l data k)
theorem putW_len (base : Nat) (l : List Nat) (data : List UInt8) : (putW base l data).length = l.length := by simp [putW]
theorem putW_at {base : Nat} {l : List Nat} {data : List UInt8} {k x : Nat} (h : l[k]? = some x) : (putW base l data)[k]? = some (((base + x : Nat) : Int), img l data k) := by
  have h1 : k < l.length := (List.getElem?_eq_some_iff.1 h).1
  unfold putW
  rw [List.getElem?_map, List.getElem?_range h1, Option.map_some, h]
  rfl
theorem wrD_alive {s : Dk} {i : Int} {bs : List UInt8} (hd : s.dead = false) (h : (wrD s i bs).1 = 0) : (wrD s i bs).2.dead = false := by
  unfold wrD at h ⊢
  rw [if_neg (by rw [hd]; simp)] at h ⊢
  split at h
  · cases h
  · split at h
    · cases h
    · rename_i h1 h2; rw [if_neg h1, if_neg h2]; exact hd

theorem Put_ct {c : Whr} {s : Dk} {T : List Bool} {F : RL} {data : List UInt8} (hB : Bok c s T) (hw : s.wr ≤ 900000) (hd : s.dead = false) (hdl : data.length ≤ 1000000) (hf : need data.length ≤ Z.frees T) {ws : List (Int × List UInt8)} (hws : ws = putW c.base (Z.tkL T (need data.length)) data) :
    CS Try.prog 15 [ptr c.rD, txt data] (bl c s T F) fun v L' => v = .tuple #[.int .i64 (if (runW s ws).1 = 0 then Z.ff T else 0 : Nat), .int .i64 (runW s ws).1] ∧ ∃ Y, L' = bl c (runW s ws).2 (if (runW s ws).1 = 0 then Z.tkT T (need data.length) else T) (Y ++ F) := by
  obtain ⟨hs, hT, hb1, hb2⟩ := hB
  have hs3 := hs.2.2.1
  have hn2 := need_two data.length
  have hfl := Z.frees_le T
  obtain ⟨n, hne⟩ : ∃ n, n = need data.length := ⟨_, rfl⟩
  rw [← hne] at hf hws hn2 ⊢
  have hll : (Z.tkL T n).length = n := Z.tkL_len T n
  have hwl : ws.length = n := by rw [hws, putW_len]; exact hll
  have hxs : ∀ x ∈ Z.tkL T n, x < T.length := fun x hx => (Z.tkL_free hf hx).1
  refine CS.mk (fn := Try.f15) rfl rfl rfl rfl ?_
  repeat refine LS.seq ?_
  refine LS.region rfl ?_
  refine OS.pure rfl (fun _ => rfl) rfl ?_
  refine OS.pure rfl (fun _ => rfl) rfl ?_
  refine OS.nil ?_
  repeat refine LS.seq ?_
  refine LS.region rfl ?_
  refine OS.pure rfl (fun _ => rfl) rfl ?_
  refine OS.call noGo rfl (fun _ => rfl) ((bRefusal_ct).mono ?_)
  rintro v L' ⟨rfl, rfl⟩
  rw [hd]
  refine ⟨_, rfl, ?_⟩
  refine OS.pure rfl (fun _ => rfl) rfl ?_
  refine OS.nil ?_
  repeat refine LS.seq ?_
  refine LS.region rfl ?_
  refine OS.pure rfl (fun _ => rfl) rfl ?_
  refine OS.pure rfl (fun _ => rfl) rfl ?_
  refine OS.nil ?_
  refine LS.cond rfl (fun hc => by cases hc) (fun hc => ?_)
  refine LS.skip ?_
  repeat refine LS.seq ?_
  refine LS.region rfl ?_
  refine OS.pure rfl (fun _ => rfl) rfl ?_
  refine OS.pure rfl (fun _ => rfl) rfl ?_
  refine OS.pure rfl (fun _ => rfl) rfl ?_
  refine OS.read rfl (e_load 0 rfl rfl rfl rfl rfl) rfl ?_
  refine OS.call noGo rfl (fun _ => rfl) ((taker_ct (ptr c.rm) ⟨rfl, rfl⟩).mono ?_)
  rintro v L' ⟨rc, rfl, rfl⟩
  refine ⟨_, rfl, ?_⟩
  refine OS.pure rfl (fun _ => rfl) rfl ?_
  refine OS.nil ?_
  repeat refine LS.seq ?_
  refine LS.region rfl ?_
  refine OS.pure rfl (fun _ => rfl) rfl ?_
  refine OS.pure rfl (fun _ => rfl) rfl ?_
  refine OS.pure rfl (fun _ => rfl) rfl ?_
  refine OS.call noGo rfl (fun _ => rfl) ((Need_ct data.length (by omega)).mono ?_)
  rintro v L' ⟨rfl, rfl⟩
  rw [← hne]
  refine ⟨_, rfl, ?_⟩
  refine OS.sub (Sub.pulls [6, 6, 2] rfl) ?_
  refine OS.call noGo rfl (fun _ => rfl) ((take_ct n hT (by omega)).mono ?_)
  rintro v L' hv
  rcases hv with ⟨_, u, Y, rfl, hg, rfl⟩ | ⟨h, _⟩
  case inr => omega
  refine ⟨_, rfl, ?_⟩
  refine OS.sub (Sub.sums2 [(rc, .cells 34 [ptr c.rm])] (A := bl c s (Z.tkT T n) (Y ++ F)) fun f => by simp [bl, Z.fm]; omega) ?_
  refine OS.pure rfl (fun _ => rfl) rfl ?_
  refine OS.pure rfl (fun _ => rfl) rfl ?_
  refine OS.pure rfl (fun _ => rfl) rfl ?_
  refine OS.pure rfl (fun _ => rfl) rfl ?_
  refine OS.pure rfl (fun _ => rfl) rfl ?_
  refine OS.nil ?_
  repeat refine LS.seq ?_
  refine LS.region rfl ?_
  refine OS.pure rfl (fun _ => rfl) rfl ?_
  refine OS.pure rfl (fun _ => rfl) rfl ?_
  refine OS.nil ?_
  refine LS.cond rfl (fun hc => by cases hc) (fun hc => ?_)
  refine LS.skip ?_
  repeat refine LS.seq ?_
  refine LS.region rfl ?_
  refine OS.pure rfl (fun _ => rfl) rfl ?_
  refine OS.pure rfl (fun _ => rfl) rfl ?_
  refine OS.call noGo rfl (fun _ => rfl) ((images_ct (hg.sv.mono (L' := bl c s (Z.tkT T n) (Y ++ F)) (fun p hp => by simp [bl, hp])) (by omega) (by omega) (fun x hx => by have := hxs x hx; omega) (by omega)).mono ?_)
  rintro v L' ⟨ra, rs, rfl, hrl, rfl⟩
  have hrlb : rs.length = (imgs (Z.tkL T n) data (sumV (Z.tkL T n) data)).length := by rw [imgs_len, hll]; exact hrl
  obtain ⟨G, hG⟩ : ∃ G, G = (ra, ARow.cells 73 (rs.map bv)) :: (bR rs (imgs (Z.tkL T n) data (sumV (Z.tkL T n) data)) ++ (Y ++ F)) := ⟨_, rfl⟩
  refine ⟨_, rfl, ?_⟩
  refine OS.pure rfl (fun _ => rfl) rfl ?_
  refine OS.pure rfl (fun _ => rfl) rfl ?_
  refine OS.sub (Sub.sums (A := bl c s (Z.tkT T n) G) fun f => by rw [hG]; simp [bl, Z.fm]; omega) ?_
  refine OS.nil ?_
  have hu : SV 1 G u n (ints (Z.tkL T n)) := hg.sv.mono (fun p hp => by rw [hG]; simp [hp])
  have hall : SV 1 G (.slice (some ⟨ra, 0, none⟩) n n) n (rs.map bv) := SV.row (e := 73) (by rw [hG]; exact List.mem_cons_self ..) (by simp [hrl])
  have hblk : ∀ k r, rs[k]? = some r → (r, ARow.cells 5 (byteCells (img (Z.tkL T n) data k))) ∈ G := fun k r hr => by
    have hk : k < n := by have := (List.getElem?_eq_some_iff.1 hr).1; omega
    rw [hG]
    refine List.mem_cons_of_mem _ (List.mem_append_left _ ?_)
    refine List.mem_map.2 ⟨(r, img (Z.tkL T n) data k), List.mem_of_getElem? (i := k) (by rw [List.getElem?_zip_eq_some]; exact ⟨hr, imgs_at (by omega)⟩), rfl⟩
  have hleft : ∀ (t : Dk) (T' : List Bool), ∃ Y', Sub (bl c t T' (Y' ++ F)) (bl c t T' G) := fun t T' => ⟨(ra, ARow.cells 73 (rs.map bv)) :: (bR rs (imgs (Z.tkL T n) data (sumV (Z.tkL T n) data)) ++ Y), by rw [hG]; exact Sub.sums fun f => by simp [bl, Z.fm] <;> omega⟩
  clear hG
  refine LS.mid [8] (fun a L' => (runW s ws).1 = 0 ∧ L' = bl c (runW s ws).2 (Z.tkT T n) G ∧ a = [.chan none, .chan none, .chan none, .chan none, .chan none, .chan none, .chan none, .chan none, u, .chan none, .chan none, .chan none, .chan none, .chan none, .chan none, .chan none, .chan none, .chan none, .chan none, .chan none, .chan none, .chan none, .chan none, .chan none, .chan none, .chan none, .chan none, .chan none, .chan none, .chan none, .chan none, .chan none, .chan none, .chan none, .chan none, .chan none, .chan none, .chan none, .chan none, .chan none, .chan none, .chan none, .chan none, .chan none, .chan none, .chan none, .chan none, .chan none, .chan none, .chan none, .chan none, .chan none, .chan none, .chan none, .chan none, .chan none, .chan none, .chan none, .chan none, .chan none, .chan none, .chan none, .chan none, .chan none, .chan none, .chan none, .chan none, .chan none, .chan none, .chan none, .chan none]) ?_ ?_
  · refine LS.block ?_
    refine LS.loopJ [0, 8, 36, 37, 38] (fun q a L' => ∃ (i : Nat) (t : Dk), q = n - i ∧ i ≤ n ∧ t.ok ∧ t.dead = false ∧ t.n = s.n ∧ t.wr ≤ s.wr + i ∧ runW s ws = runW t (ws.drop i) ∧ L' = bl c t (Z.tkT T n) G ∧
      a = [ptr c.rD, .chan none, .chan none, .chan none, .chan none, .chan none, .chan none, .chan none, u, .chan none, .chan none, .chan none, .chan none, .chan none, .chan none, .chan none, .chan none, .chan none, .chan none, .chan none, .chan none, .chan none, .chan none, .chan none, .chan none, .chan none, .chan none, .chan none, .chan none, .chan none, .chan none, .chan none, .chan none, .chan none, .chan none, .chan none, .slice (some ⟨ra, 0, none⟩) n n, .int .i64 (n : Nat), .int .i64 (i : Nat), .chan none, .chan none, .chan none, .chan none, .chan none, .chan none, .chan none, .chan none, .chan none, .chan none, .chan none, .chan none, .chan none, .chan none, .chan none, .chan none, .chan none, .chan none, .chan none, .chan none, .chan none, .chan none, .chan none, .chan none, .chan none, .chan none, .chan none, .chan none, .chan none, .chan none, .chan none, .chan none]) (n := n) rfl ⟨0, s, rfl, by omega, hs, hd, rfl, by omega, rfl, rfl, rfl⟩ ?_
    rintro q a L' ⟨i, t, rfl, hi, ht, htd, htn, htw, hrun, rfl, rfl⟩
    repeat refine LS.seq ?_
    refine LS.region rfl ?_
    refine OS.pure rfl (fun _ => rfl) rfl ?_
    refine OS.nil ?_
    repeat refine LS.seq ?_
    refine LS.cond rfl (fun hc => ?_) (fun hc => ?_)
    · have hc : (i : Int) < n := lt_of hc
      have hin : i < n := by omega
      obtain ⟨x, hx⟩ : ∃ x, (Z.tkL T n)[i]? = some x := ⟨_, List.getElem?_eq_getElem (by omega)⟩
      have hxl := hxs x (List.mem_of_getElem? hx)
      obtain ⟨r, hr⟩ : ∃ r, rs[i]? = some r := ⟨_, List.getElem?_eq_getElem (by omega)⟩
      have hw1 : ws[i]? = some (((c.base + x : Nat) : Int), img (Z.tkL T n) data i) := by rw [hws]; exact putW_at hx
      obtain ⟨hok, hno⟩ := runW_step hw1 hrun
      simp only at hok hno
      have htok := wrD_ok (i := ((c.base + x : Nat) : Int)) (bs := img (Z.tkL T n) data i) ht (by omega)
      have hwr := wrD_wr (s := t) (i := ((c.base + x : Nat) : Int)) (bs := img (Z.tkL T n) data i)
      have hwn := wrD_n (s := t) (i := ((c.base + x : Nat) : Int)) (bs := img (Z.tkL T n) data i)
      have hraw : rawD t ((c.base + x : Nat) : Int) (img (Z.tkL T n) data i) = wrD t ((c.base + x : Nat) : Int) (img (Z.tkL T n) data i) := by
        unfold rawD; rw [if_neg (by rw [htd]; simp), if_pos (show plainP t.n _ by unfold plainP; omega)]
      have hsb : SV 1 G (bv r) 256 (byteCells (img (Z.tkL T n) data i)) := SV.row (hblk i r hr) (by rw [byteCells_len]; exact imgB_len ..)
      have hm6 : ∀ (x1 x2 x3 x4 x5 x6 : Nat × ARow) (p : Nat × ARow), p ∈ G → p ∈ x1 :: x2 :: x3 :: x4 :: x5 :: x6 :: G := fun _ _ _ _ _ _ p hp => by simp [hp]
      refine LS.skip ?_
      repeat refine LS.seq ?_
      refine LS.block ?_
      repeat refine LS.seq ?_
      refine LS.region rfl ?_
      refine OS.pure rfl (fun _ => rfl) rfl ?_
      refine OS.at1 (j := i) ((hall.mono (hm6 _ _ _ _ _ _))) ((show _ = some (bv r) by simp [hr])) rfl rfl rfl rfl rfl rfl (fun ra0 oa0 rowa0 csa0 ma0 ca0 ga0 => ⟨_, rfl, ?_⟩)
      refine OS.read rfl (e_loadm ma0 ca0 rfl rfl (part_one rfl ga0)) rfl ?_
      refine OS.pure rfl (fun _ => rfl) rfl ?_
      refine OS.pure rfl (fun _ => rfl) rfl ?_
      refine OS.nil ?_
      repeat refine LS.seq ?_
      refine LS.drawn noGo mixed [(0, false), (1, false), (2, false), (3, false), (4, false), (5, false), (6, false), (7, false), (8, false), (9, false), (10, false), (11, false), (12, false), (13, false), (14, true), (15, false)] rfl rfl (by kernel_rfl) ?_
      refine ODS.pure rfl rfl (fun _ => rfl) rfl ?_
      refine ODS.pure rfl rfl (fun _ => rfl) rfl ?_
      refine ODS.pure rfl rfl (fun _ => rfl) rfl ?_
      refine ODS.read rfl rfl (e_load 0 rfl rfl rfl rfl rfl) rfl ?_
      refine ODS.pure rfl rfl (fun _ => rfl) rfl ?_
      refine ODS.pure rfl rfl (fun _ => rfl) rfl ?_
      refine ODS.pure rfl rfl (fun _ => rfl) rfl ?_
      refine ODS.read rfl rfl (e_load 0 rfl rfl rfl rfl rfl) rfl ?_
      refine ODS.pure rfl rfl (fun _ => rfl) rfl ?_
      refine ODS.pure rfl rfl (fun _ => rfl) rfl ?_
      refine ODS.at1 (j := i) ((hu.mono (hm6 _ _ _ _ _ _))) ((show _ = some (Value.int .i64 (x : Nat)) by simp [hx])) rfl rfl rfl rfl rfl rfl rfl (fun ra0 oa0 rowa0 csa0 ma0 ca0 ga0 => ⟨_, rfl, ?_⟩)
      refine ODS.read rfl rfl (e_loadm ma0 ca0 rfl rfl (part_one rfl ga0)) rfl ?_
      refine ODS.pure rfl rfl (e_is (e_add (k := .i64) (m := ((c.base : Nat) : Int)) (n := ((x : Nat) : Int)) rfl rfl rfl (in_i64 (by omega) (by omega))) (congrArg (Value.int .i64) (show ((c.base : Nat) : Int) + ((x : Nat) : Int) = ((c.base + x : Nat) : Int) by omega))) rfl ?_
      refine ODS.pure rfl rfl (fun _ => rfl) rfl ?_
      refine ODS.sub (Sub.pulls [3, 3, 3] rfl) ?_
      refine ODS.call rfl rfl (fun _ => rfl) ((jRaw_ct ht ((c.base + x : Nat) : Int) (hsb.mono (fun p hp => by simp [hp]))).mono ?_)
      rintro v L' ⟨rfl, rfl⟩
      rw [hraw]
      refine ⟨_, rfl, Keep.gone rfl (Keep.gone rfl (Keep.gone rfl Keep.nil)), ?_⟩
      refine ODS.sub (Sub.pulls [3] rfl) ?_
      refine ODS.pure rfl rfl (fun _ => rfl) rfl ?_
      refine ODS.nil ?_
      by_cases h0 : (wrD t ((c.base + x : Nat) : Int) (img (Z.tkL T n) data i)).1 = 0
      · rw [h0]
        repeat refine LS.seq ?_
        refine LS.region rfl ?_
        refine OS.pure rfl (fun _ => rfl) rfl ?_
        refine OS.pure rfl (fun _ => rfl) rfl ?_
        refine OS.nil ?_
        refine LS.cond rfl (fun hc => by cases hc) (fun hc => ?_)
        refine LS.skip ?_
        repeat refine LS.seq ?_
        refine LS.region rfl ?_
        refine OS.pure rfl (e_add rfl rfl rfl (in_i64 (by omega) (by omega))) rfl ?_
        refine OS.pure rfl (fun _ => rfl) rfl ?_
        refine OS.nil ?_
        exact ⟨n - (i + 1), by omega, i + 1, _, rfl, by omega, htok, wrD_alive htd h0, by omega, by omega, hok h0, rfl, rfl⟩
      · rw [hno h0]
        repeat refine LS.seq ?_
        refine LS.region rfl ?_
        refine OS.pure rfl (fun _ => rfl) rfl ?_
        refine OS.pure rfl (e_is (fun _ => rfl) (congrArg Value.bool (ne_of h0))) rfl ?_
        refine OS.nil ?_
        refine LS.cond rfl (fun hc => ?_) (fun hc => by cases hc)
        repeat refine LS.seq ?_
        refine LS.region rfl ?_
        refine OS.pure rfl (fun _ => rfl) rfl ?_
        refine OS.pure rfl (fun _ => rfl) rfl ?_
        refine OS.pure rfl (fun _ => rfl) rfl ?_
        refine OS.read rfl (e_load 0 rfl rfl rfl rfl rfl) rfl ?_
        refine OS.pure rfl (fun _ => rfl) rfl ?_
        refine OS.sub (Sub.pulls [5, 5] rfl) ?_
        refine OS.call noGo rfl (fun _ => rfl) ((giveBack_ct (by rw [Z.tkT_len]; exact hT) (hu.mono (fun p hp => by simp [hp])) (by omega)).mono ?_)
        rintro v L' rfl
        rw [Z.giveL_back hf]
        refine ⟨_, rfl, ?_⟩
        refine OS.sub (Sub.pulls [5, 5, 5, 5] rfl) ?_
        refine OS.nil ?_
        repeat refine LS.seq ?_
        refine LS.region rfl ?_
        refine OS.pure rfl (fun _ => rfl) rfl ?_
        refine OS.pure rfl (fun _ => rfl) rfl ?_
        refine OS.pure rfl (fun _ => rfl) rfl ?_
        refine OS.nil ?_
        obtain ⟨Y', hY'⟩ := hleft (wrD t ((c.base + x : Nat) : Int) (img (Z.tkL T n) data i)).2 T
        refine LS.sub hY' ?_
        refine LS.ret ⟨_, fun _ _ => rfl, ?_⟩
        rw [if_neg h0, if_neg h0]
        exact ⟨rfl, Y', rfl⟩
    have hc : (n : Int) ≤ i := nlt_of hc
    have hin : i = n := by omega
    subst hin
    rw [List.drop_of_length_le (by omega)] at hrun
    rw [hrun]
    refine LS.exit ?_
    exact ⟨rfl, rfl, rfl⟩
  rintro a L' ⟨h0, rfl, rfl⟩
  repeat refine LS.seq ?_
  refine LS.region rfl ?_
  refine OS.pure rfl (fun _ => rfl) rfl ?_
  refine OS.at1 (j := 0) ((hu.mono (fun p hp => by simp [hp]))) ((show _ = some (Value.int .i64 (Z.ff T : Nat)) by simp [Z.tkL_at (show 0 < n by omega)]; rfl)) rfl rfl rfl rfl rfl rfl (fun ra0 oa0 rowa0 csa0 ma0 ca0 ga0 => ⟨_, rfl, ?_⟩)
  refine OS.read rfl (e_loadm ma0 ca0 rfl rfl (part_one rfl ga0)) rfl ?_
  refine OS.pure rfl (fun _ => rfl) rfl ?_
  refine OS.pure rfl (fun _ => rfl) rfl ?_
  refine OS.nil ?_
  obtain ⟨Y', hY'⟩ := hleft (runW s ws).2 (Z.tkT T n)
  refine LS.sub hY' ?_
  refine LS.ret ⟨_, fun _ _ => rfl, ?_⟩
  rw [h0]
  exact ⟨rfl, Y', rfl⟩
/-- Too few blocks. -/
theorem Put_full {c : Whr} {s : Dk} {T : List Bool} {F : RL} {data : List UInt8} (hT : T.length ≤ 32768) (hd : s.dead = false) (hdl : data.length ≤ 1000000) (hf : Z.frees T < need data.length) :
    CS Try.prog 15 [ptr c.rD, txt data] (bl c s T F) fun v L' => v = .tuple #[.int .i64 0, .int .i64 3] ∧ ∃ Y, L' = bl c s T (Y ++ F) := by
  have hfl := Z.frees_le T
  have hne := need_le (n := data.length) (by omega)
  refine CS.mk (fn := Try.f15) rfl rfl rfl rfl ?_
  repeat refine LS.seq ?_
  refine LS.region rfl ?_
  refine OS.pure rfl (fun _ => rfl) rfl ?_
  refine OS.pure rfl (fun _ => rfl) rfl ?_
  refine OS.nil ?_
  repeat refine LS.seq ?_
  refine LS.region rfl ?_
  refine OS.pure rfl (fun _ => rfl) rfl ?_
  refine OS.call noGo rfl (fun _ => rfl) ((bRefusal_ct).mono ?_)
  rintro v L' ⟨rfl, rfl⟩
  rw [hd]
  refine ⟨_, rfl, ?_⟩
  refine OS.pure rfl (fun _ => rfl) rfl ?_
  refine OS.nil ?_
  repeat refine LS.seq ?_
  refine LS.region rfl ?_
  refine OS.pure rfl (fun _ => rfl) rfl ?_
  refine OS.pure rfl (fun _ => rfl) rfl ?_
  refine OS.nil ?_
  refine LS.cond rfl (fun hc => by cases hc) (fun hc => ?_)
  refine LS.skip ?_
  repeat refine LS.seq ?_
  refine LS.region rfl ?_
  refine OS.pure rfl (fun _ => rfl) rfl ?_
  refine OS.pure rfl (fun _ => rfl) rfl ?_
  refine OS.pure rfl (fun _ => rfl) rfl ?_
  refine OS.read rfl (e_load 0 rfl rfl rfl rfl rfl) rfl ?_
  refine OS.call noGo rfl (fun _ => rfl) ((taker_ct (ptr c.rm) ⟨rfl, rfl⟩).mono ?_)
  rintro v L' ⟨rc, rfl, rfl⟩
  refine ⟨_, rfl, ?_⟩
  refine OS.pure rfl (fun _ => rfl) rfl ?_
  refine OS.nil ?_
  repeat refine LS.seq ?_
  refine LS.region rfl ?_
  refine OS.pure rfl (fun _ => rfl) rfl ?_
  refine OS.pure rfl (fun _ => rfl) rfl ?_
  refine OS.pure rfl (fun _ => rfl) rfl ?_
  refine OS.call noGo rfl (fun _ => rfl) ((Need_ct data.length (by omega)).mono ?_)
  rintro v L' ⟨rfl, rfl⟩
  refine ⟨_, rfl, ?_⟩
  refine OS.sub (Sub.pulls [6, 6, 2] rfl) ?_
  refine OS.call noGo rfl (fun _ => rfl) ((take_ct (need data.length) hT (by omega)).mono ?_)
  rintro v L' hv
  rcases hv with ⟨h, _⟩ | ⟨_, rfl, Y, rfl⟩
  case inl => omega
  refine ⟨_, rfl, ?_⟩
  refine OS.sub (Sub.sums2 [(rc, .cells 34 [ptr c.rm])] (A := bl c s T (Y ++ F)) fun f => by simp [bl, Z.fm]; omega) ?_
  refine OS.pure rfl (fun _ => rfl) rfl ?_
  refine OS.pure rfl (fun _ => rfl) rfl ?_
  refine OS.pure rfl (fun _ => rfl) rfl ?_
  refine OS.pure rfl (fun _ => rfl) rfl ?_
  refine OS.pure rfl (fun _ => rfl) rfl ?_
  refine OS.nil ?_
  repeat refine LS.seq ?_
  refine LS.region rfl ?_
  refine OS.pure rfl (fun _ => rfl) rfl ?_
  refine OS.pure rfl (fun _ => rfl) rfl ?_
  refine OS.nil ?_
  refine LS.cond rfl (fun hc => ?_) (fun hc => by cases hc)
  repeat refine LS.seq ?_
  refine LS.region rfl ?_
  refine OS.pure rfl (fun _ => rfl) rfl ?_
  refine OS.pure rfl (fun _ => rfl) rfl ?_
  refine OS.pure rfl (fun _ => rfl) rfl ?_
  refine OS.nil ?_
  refine LS.ret ⟨_, fun _ _ => rfl, ?_⟩
  exact ⟨rfl, Y, rfl⟩
end Go.Proofs.Yteiiekfccecoiaa
