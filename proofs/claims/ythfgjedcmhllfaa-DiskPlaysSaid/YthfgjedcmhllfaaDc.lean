/- Layer 3: what a block is behind a write; works. -/
import Derived.Test.YthfgjedcmhllfaaDb
namespace Go.Proofs.Ythfgjedcmhllfaa
open Go.Am
set_option linter.unusedVariables false
set_option maxRecDepth 20000

theorem blk_get {D : List UInt8} {j k : Nat} : (blk D j)[k]? = if k < 256 then D[j * 256 + k]? else none := by
  simp [List.getElem?_take]
theorem blk_put_same {D bs : List UInt8} {n i : Nat} (h : D.length = n * 256) (hi : i < n) (hb : bs.length = 256) : blk (put D i bs) i = bs := by
  have : i * 256 + 256 ≤ n * 256 := by omega
  have hl : (D.take (i * 256)).length = i * 256 := by rw [List.length_take]; omega
  unfold blk put
  rw [List.drop_left' hl, List.take_left' hb]
theorem put_get {D bs : List UInt8} {n i m : Nat} (h : D.length = n * 256) (hi : i < n) (hb : bs.length = 256) (hm : m < i * 256 ∨ i * 256 + 256 ≤ m) : (put D i bs)[m]? = D[m]? := by
  have : i * 256 + 256 ≤ n * 256 := by omega
  have hl : (D.take (i * 256)).length = i * 256 := by rw [List.length_take]; omega
  unfold put
  rcases hm with hm | hm
  · rw [List.getElem?_append_left (by omega), List.getElem?_take]; simp [hm]
  · rw [List.getElem?_append_right (by omega), List.getElem?_append_right (by omega), List.getElem?_drop]
    congr 1
    omega
theorem blk_put_ne {D bs : List UInt8} {n i j : Nat} (h : D.length = n * 256) (hi : i < n) (hb : bs.length = 256) (hij : j ≠ i) : blk (put D i bs) j = blk D j := by
  apply List.ext_getElem?
  intro k
  rw [blk_get, blk_get]
  split
  · rw [put_get h hi hb (by omega)]
  · rfl
theorem blk_zeros {n j : Nat} (hj : j < n) : blk (List.replicate (n * 256) 0) j = List.replicate 256 0 := by
  have : j * 256 + 256 ≤ n * 256 := by omega
  unfold blk
  rw [List.drop_replicate, List.take_replicate]
  congr 1
  omega

theorem ok_of {D : List UInt8} {n wr left : Nat} {cut dead : Bool} (h : D.length = n * 256) (h1 : 512 ≤ n) (h2 : n ≤ 32768) (h3 : wr ≤ 1000000) (h4 : left ≤ 9223372036854775807) : Dk.ok ⟨n, D, wr, cut, left, dead⟩ := ⟨h, h1, h2, h3, h4⟩

theorem works_ct {L : RL} : CS Try.prog 9 [] L fun v L' => v = .bool true ∧ L' = L := by
  refine CS.mk (fn := Try.f9) rfl rfl rfl rfl ?_
  repeat refine LS.seq ?_
  refine LS.region rfl ?_
  refine OS.pure rfl (fun _ => rfl) rfl ?_
  refine OS.nil ?_
  repeat refine LS.seq ?_
  refine LS.region rfl ?_
  refine OS.call noGo rfl (fun _ => rfl) ((New_ct 512 (by omega) (by omega)).mono ?_)
  rintro v L' ⟨rd, rb, rfl, rfl⟩
  have hD : (List.replicate (512 * 256) (0 : UInt8)).length = 512 * 256 := List.length_replicate
  have hz : ∀ j, j < 512 → blk (List.replicate (512 * 256) (0 : UInt8)) j = List.replicate 256 0 := fun j hj => blk_zeros hj
  generalize List.replicate (512 * 256) (0 : UInt8) = D at hD hz
  have o1 : Dk.ok ⟨512, D, 0, false, 0, false⟩ := ok_of hD (by decide) (by decide) (by decide) (by decide)
  have hE := put_len (i := 1) hD (by omega) (List.length_replicate (n := 256) (a := (97 : UInt8)))
  have hG := put_len (i := 1) hE (by omega) (List.length_replicate (n := 256) (a := (98 : UInt8)))
  have o2 : Dk.ok ⟨512, put D 1 (List.replicate 256 97), 1, true, 1, false⟩ := ok_of hE (by decide) (by decide) (by decide) (by decide)
  have o3 : Dk.ok ⟨512, put (put D 1 (List.replicate 256 97)) 1 (List.replicate 256 98), 2, true, 0, true⟩ := ok_of hG (by decide) (by decide) (by decide) (by decide)
  have o4 : Dk.ok ⟨512, put (put D 1 (List.replicate 256 97)) 1 (List.replicate 256 98), 0, false, 0, false⟩ := ok_of hG (by decide) (by decide) (by decide) (by decide)
  refine ⟨_, rfl, ?_⟩
  refine OS.pure rfl (fun _ => rfl) rfl ?_
  refine OS.pure rfl (fun _ => rfl) rfl ?_
  refine OS.pure rfl (fun _ => rfl) rfl ?_
  refine OS.pure rfl (fun _ => rfl) rfl ?_
  refine OS.pure rfl (fun _ => rfl) rfl ?_
  refine OS.nil ?_
  repeat refine LS.seq ?_
  refine LS.region rfl ?_
  refine OS.pure rfl (fun _ => rfl) rfl ?_
  refine OS.pure rfl (fun _ => rfl) rfl ?_
  refine OS.pure rfl (fun _ => rfl) rfl ?_
  refine OS.pure rfl (fun _ => rfl) rfl ?_
  refine OS.call noGo rfl (fun _ => rfl) ((full_ct 97).mono ?_)
  rintro v L' ⟨ra, rfl, rfl⟩
  refine ⟨_, rfl, ?_⟩
  refine OS.sub (Sub.pulls [2, 2] rfl) ?_
  refine OS.call noGo rfl (fun _ => rfl) ((Write_ct o1 rfl (fun h => by cases h) 1 (show 1 < 512 by decide) (SV.row (List.mem_cons_self ..) (by rw [byteCells_len, List.length_replicate]))).mono ?_)
  rintro v L' ⟨rfl, rfl⟩
  refine ⟨_, rfl, ?_⟩
  refine OS.sub (Sub.drop 2 rfl) ?_
  refine OS.pure rfl (fun _ => rfl) rfl ?_
  refine OS.pure rfl (fun _ => rfl) rfl ?_
  refine OS.pure rfl (fun _ => rfl) rfl ?_
  refine OS.pure rfl (fun _ => rfl) rfl ?_
  refine OS.call noGo rfl (fun _ => rfl) ((Cut_ct (s := ⟨512, put D 1 (List.replicate 256 97), 1, false, 0, false⟩) rfl 1 (by decide)).mono ?_)
  rintro v L' ⟨rfl, rfl⟩
  refine ⟨_, rfl, ?_⟩
  refine OS.pure rfl (fun _ => rfl) rfl ?_
  refine OS.pure rfl (fun _ => rfl) rfl ?_
  refine OS.pure rfl (fun _ => rfl) rfl ?_
  refine OS.pure rfl (fun _ => rfl) rfl ?_
  refine OS.call noGo rfl (fun _ => rfl) ((full_ct 98).mono ?_)
  rintro v L' ⟨ra', rfl, rfl⟩
  refine ⟨_, rfl, ?_⟩
  refine OS.sub (Sub.pulls [2, 2] rfl) ?_
  refine OS.call noGo rfl (fun _ => rfl) ((Write_ct o2 rfl (fun h => show 0 < 1 by decide) 1 (show 1 < 512 by decide) (SV.row (List.mem_cons_self ..) (by rw [byteCells_len, List.length_replicate]))).mono ?_)
  rintro v L' ⟨rfl, rfl⟩
  refine ⟨_, rfl, ?_⟩
  refine OS.sub (Sub.drop 2 rfl) ?_
  refine OS.pure rfl (fun _ => rfl) rfl ?_
  refine OS.pure rfl (fun _ => rfl) rfl ?_
  refine OS.pure rfl (fun _ => rfl) rfl ?_
  refine OS.pure rfl (fun _ => rfl) rfl ?_
  refine OS.call noGo rfl (fun _ => rfl) ((full_ct 98).mono ?_)
  rintro v L' ⟨ra', rfl, rfl⟩
  refine ⟨_, rfl, ?_⟩
  refine OS.sub (Sub.pulls [2, 2] rfl) ?_
  refine OS.call noGo rfl (fun _ => rfl) ((Write_cut (s := ⟨512, put (put D 1 (List.replicate 256 97)) 1 (List.replicate 256 98), 2, true, 0, false⟩) rfl rfl rfl 2 (show 2 < 512 by decide) (SV.row (List.mem_cons_self ..) (by rw [byteCells_len, List.length_replicate]))).mono ?_)
  rintro v L' ⟨rfl, rfl⟩
  refine ⟨_, rfl, ?_⟩
  refine OS.sub (Sub.drop 2 rfl) ?_
  refine OS.pure rfl (fun _ => rfl) rfl ?_
  refine OS.pure rfl (fun _ => rfl) rfl ?_
  refine OS.pure rfl (fun _ => rfl) rfl ?_
  refine OS.pure rfl (fun _ => rfl) rfl ?_
  refine OS.call noGo rfl (fun _ => rfl) ((Dead_ct).mono ?_)
  rintro v L' ⟨rfl, rfl⟩
  refine ⟨_, rfl, ?_⟩
  refine OS.pure rfl (fun _ => rfl) rfl ?_
  refine OS.pure rfl (fun _ => rfl) rfl ?_
  refine OS.nil ?_
  refine LS.cond rfl (fun hc => by cases hc) (fun hc => ?_)
  refine LS.skip ?_
  repeat refine LS.seq ?_
  refine LS.region rfl ?_
  refine OS.pure rfl (fun _ => rfl) rfl ?_
  refine OS.call noGo rfl (fun _ => rfl) ((Reopen_ct o3 rfl).mono ?_)
  rintro v L' ⟨rd', rb', rfl, rfl⟩
  refine ⟨_, rfl, ?_⟩
  refine OS.pure rfl (fun _ => rfl) rfl ?_
  refine OS.pure rfl (fun _ => rfl) rfl ?_
  refine OS.pure rfl (fun _ => rfl) rfl ?_
  refine OS.pure rfl (fun _ => rfl) rfl ?_
  refine OS.pure rfl (fun _ => rfl) rfl ?_
  refine OS.nil ?_
  repeat refine LS.seq ?_
  refine LS.region rfl ?_
  refine OS.pure rfl (fun _ => rfl) rfl ?_
  refine OS.pure rfl (fun _ => rfl) rfl ?_
  refine OS.nil ?_
  refine LS.cond rfl (fun hc => by cases hc) (fun hc => ?_)
  refine LS.skip ?_
  repeat refine LS.seq ?_
  refine LS.region rfl ?_
  refine OS.pure rfl (fun _ => rfl) rfl ?_
  refine OS.call noGo rfl (fun _ => rfl) ((Read_ct o4 rfl 1 (show 1 < 512 by decide)).mono ?_)
  rintro v L' ⟨r1, rfl, rfl⟩
  refine ⟨_, rfl, ?_⟩
  refine OS.sub (Sub.pulls [2, 2] rfl) ?_
  refine OS.pure rfl (fun _ => rfl) rfl ?_
  refine OS.pure rfl (fun _ => rfl) rfl ?_
  refine OS.pure rfl (fun _ => rfl) rfl ?_
  refine OS.pure rfl (fun _ => rfl) rfl ?_
  refine OS.pure rfl (fun _ => rfl) rfl ?_
  refine OS.nil ?_
  repeat refine LS.seq ?_
  refine LS.region rfl ?_
  refine OS.pure rfl (fun _ => rfl) rfl ?_
  refine OS.call noGo rfl (fun _ => rfl) ((Read_ct o4 rfl 2 (show 2 < 512 by decide)).mono ?_)
  rintro v L' ⟨r2, rfl, rfl⟩
  refine ⟨_, rfl, ?_⟩
  refine OS.sub (Sub.pulls [2, 2] rfl) ?_
  refine OS.pure rfl (fun _ => rfl) rfl ?_
  refine OS.pure rfl (fun _ => rfl) rfl ?_
  refine OS.pure rfl (fun _ => rfl) rfl ?_
  refine OS.pure rfl (fun _ => rfl) rfl ?_
  refine OS.pure rfl (fun _ => rfl) rfl ?_
  refine OS.nil ?_
  have b1 : blk (put (put D 1 (List.replicate 256 97)) 1 (List.replicate 256 98)) 1 = List.replicate 256 98 := blk_put_same hE (by omega) List.length_replicate
  have b2 : blk (put (put D 1 (List.replicate 256 97)) 1 (List.replicate 256 98)) 2 = List.replicate 256 0 := by rw [blk_put_ne hE (by omega) List.length_replicate (by omega), blk_put_ne hD (by omega) List.length_replicate (by omega), hz 2 (by omega)]
  repeat refine LS.seq ?_
  refine LS.drawn noGo mixed [(0, false), (1, false), (2, false), (3, false), (4, false), (5, false), (6, false), (7, false), (8, false), (9, true), (10, false), (11, false), (12, false), (13, false), (14, false), (15, false), (16, true), (17, false), (18, false), (19, false), (20, false), (21, false), (22, true), (23, false), (24, false), (25, false)] rfl rfl (by kernel_rfl) ?_
  refine ODS.pure rfl rfl (fun _ => rfl) rfl ?_
  refine ODS.pure rfl rfl (fun _ => rfl) rfl ?_
  refine ODS.pure rfl rfl (fun _ => rfl) rfl ?_
  refine ODS.pure rfl rfl (fun _ => rfl) rfl ?_
  refine ODS.pure rfl rfl (fun _ => rfl) rfl ?_
  refine ODS.pure rfl rfl (fun _ => rfl) rfl ?_
  refine ODS.pure rfl rfl (fun _ => rfl) rfl ?_
  refine ODS.pure rfl rfl (fun _ => rfl) rfl ?_
  refine ODS.read rfl rfl (e_textSV (n := 256) (bs := blk (put (put D 1 (List.replicate 256 97)) 1 (List.replicate 256 98)) 1) (SV.row (e := 85) (r := r1) (by simp) (by rw [byteCells_len, b1, List.length_replicate])) rfl rfl rfl rfl rfl) rfl ?_
  refine ODS.call rfl rfl (fun _ => rfl) ((full_ct 98).mono ?_)
  rintro v L' ⟨r3, rfl, rfl⟩
  refine ⟨_, rfl, Keep.cons rfl (e_textSV (n := 256) (bs := blk (put (put D 1 (List.replicate 256 97)) 1 (List.replicate 256 98)) 1) (SV.row (e := 85) (r := r1) (by simp) (by rw [byteCells_len, b1, List.length_replicate])) rfl rfl rfl rfl rfl) Keep.nil, ?_⟩
  refine ODS.read rfl rfl (e_textSV (n := 256) (bs := List.replicate 256 98) (SV.row (e := 5) (r := r3) (by simp) (by rw [byteCells_len, List.length_replicate])) rfl rfl rfl rfl rfl) rfl ?_
  refine ODS.pure rfl rfl (e_is (fun _ => rfl) (congrArg Value.bool (show bytesEq (blk (put (put D 1 (List.replicate 256 97)) 1 (List.replicate 256 98)) 1) (List.replicate 256 98) = true by rw [bytesEq_eq, b1]; simp))) rfl ?_
  refine ODS.pure rfl rfl (fun _ => rfl) rfl ?_
  refine ODS.pure rfl rfl (fun _ => rfl) rfl ?_
  refine ODS.pure rfl rfl (fun _ => rfl) rfl ?_
  refine ODS.read rfl rfl (e_textSV (n := 256) (bs := blk (put (put D 1 (List.replicate 256 97)) 1 (List.replicate 256 98)) 2) (SV.row (e := 85) (r := r2) (by simp) (by rw [byteCells_len, b2, List.length_replicate])) rfl rfl rfl rfl rfl) rfl ?_
  refine ODS.call rfl rfl (fun _ => rfl) ((full_ct 0).mono ?_)
  rintro v L' ⟨r4, rfl, rfl⟩
  refine ⟨_, rfl, Keep.cons rfl (e_textSV (n := 256) (bs := blk (put (put D 1 (List.replicate 256 97)) 1 (List.replicate 256 98)) 2) (SV.row (e := 85) (r := r2) (by simp) (by rw [byteCells_len, b2, List.length_replicate])) rfl rfl rfl rfl rfl) (Keep.gone rfl (Keep.gone rfl Keep.nil)), ?_⟩
  refine ODS.read rfl rfl (e_textSV (n := 256) (bs := List.replicate 256 0) (SV.row (e := 5) (r := r4) (by simp) (by rw [byteCells_len, List.length_replicate])) rfl rfl rfl rfl rfl) rfl ?_
  refine ODS.pure rfl rfl (e_is (fun _ => rfl) (congrArg Value.bool (show bytesEq (blk (put (put D 1 (List.replicate 256 97)) 1 (List.replicate 256 98)) 2) (List.replicate 256 0) = true by rw [bytesEq_eq, b2]; simp))) rfl ?_
  refine ODS.pure rfl rfl (fun _ => rfl) rfl ?_
  refine ODS.pure rfl rfl (fun _ => rfl) rfl ?_
  refine ODS.pure rfl rfl (fun _ => rfl) rfl ?_
  refine ODS.call rfl rfl (fun _ => rfl) ((CS.sub (Sub.pulls [3, 3] rfl) Writes_ct).mono ?_)
  rintro v L' ⟨rfl, rfl⟩
  refine ⟨_, rfl, Keep.gone rfl (Keep.gone rfl (Keep.gone rfl (Keep.gone rfl Keep.nil))), ?_⟩
  refine ODS.pure rfl rfl (fun _ => rfl) rfl ?_
  refine ODS.pure rfl rfl (fun _ => rfl) rfl ?_
  refine ODS.pure rfl rfl (fun _ => rfl) rfl ?_
  refine ODS.nil ?_
  refine LS.sub (Sub.drop 0 rfl) (LS.sub (Sub.drop 0 rfl) (LS.sub (Sub.drop 0 rfl) (LS.sub (Sub.drop 0 rfl) (LS.sub (Sub.drop 0 rfl) (LS.sub (Sub.drop 0 rfl) (LS.sub (Sub.drop 0 rfl) (LS.sub (Sub.drop 0 rfl) ?_)))))))
  refine LS.ret ⟨_, fun _ _ => rfl, ?_⟩
  exact ⟨rfl, rfl⟩
end Go.Proofs.Ythfgjedcmhllfaa
