/-
  Texts JSmall, JRows, JHalf, JExt, JBegin, JLook, in one file. What each proves, and its conditions, stand at its head below.
-/
import Derived.Test.YtdjhlhellkajfaaGreatM22
import Derived.Deep.QuietTactic
import Derived.BigQuiet
import Derived.IntWalk
/-
  What the small functions of a half answer: its room, a place, a sector, a head's mark, a group's mark; what groups take. Conditions: the disk is known.
-/
namespace Go.Proofs.YtdjhlhellkajfaaGreat.Jou
open Go.RowKit Codec FrameM Cod JourM
open Disk (Turn Dk Dsk ptr Now)
set_option maxRecDepth 100000
theorem read_bad (w : World) (g gs gm : Nat) (d : Dsk) (h : Dk w g gs gm d) (ho : d.off = false) (i : Nat) (hi : d.n ≤ i) : Calls Tryz.prog 76 #[ptr g, .int .i64 i] w (Disk.Ends (.tuple #[.slice none 0 0, .int .i64 1]) w) := by
  have HR := Lib.hid (Disk.refuses_disk w g gs gm d i h)
  have hw : d.why i = 1 := by simp [Dsk.why, ho]; omega
  rw [hw] at HR
  clear h ho hw hi
  unfold ptr at HR ⊢
  go_enter Tryz.func76, Tryz.ntmps76
  go_wp2_with fail
  refine HR.out.mono ?_
  rintro e w1 ⟨rfl, rfl⟩
  go_wp2
  go_ret2
  exact ⟨rfl, rfl⟩
theorem read_any (w : World) (g gs gm : Nat) (d : Dsk) (h : Dk w g gs gm d) (ho : d.off = false) (i : Nat) : Calls Tryz.prog 76 #[ptr g, .int .i64 i] w (Got w (rd d i)) := by
  by_cases hi : i < d.n
  · have hr : rd d i = d.read i := by unfold rd; rw [if_pos hi]
    have hl := Disk.Dsk.read_length h.ok hi
    rw [hr]
    refine (Disk.read_disk w g gs gm d h ho i hi).mono ?_
    rintro e w' ⟨k, rfl, h1, h2, h3⟩
    have hb := byts_block h1
    exact ⟨some ⟨k, 0, none⟩, 64, 0, by rw [hl], hb, below_of_turn h3, by omega, by unfold maxLen; omega, Frm.Above.one h2⟩
  · rw [rd_out (by omega)]
    refine (read_bad w g gs gm d h ho i (by omega)).mono ?_
    rintro e w' ⟨rfl, rfl⟩
    exact ⟨none, 0, 1, rfl, Byts.none_, Below.refl _ _, Nat.le_refl _, Nat.zero_le _, Frm.Above.none_⟩
theorem place_any (w : World) (gen : Nat) (hg : gen < 9223372036854775808) : Calls Tryz.prog 100 #[.int .i64 gen] w (Disk.Ends (.int .i64 ((gen % 2 : Nat) : Int)) w) := by
  have h1 : (0 : Int) ≤ gen := by omega
  have h2 : (gen : Int) ≤ 9223372036854775807 := by omega
  have HM : Hid (((gen % 2 : Nat) : Int) = (gen : Int) % 2) := Lib.hid (by omega)
  rw [HM.out]
  go_enter Tryz.func100, Tryz.ntmps100
  go_wp2
  go_ret
  exact ⟨rfl, rfl⟩
theorem room_any (w : World) (g gs gm : Nat) (d : Dsk) (gen : Nat) (h : Dk w g gs gm d) (h8 : 2 ≤ d.n) : Calls Tryz.prog 75 #[hv g gen] w (EndsBelow (.int .i64 (room d.n)) w) := by
  have h1 := h.ok.2.1
  have HS := Lib.hid (Disk.sectors_disk (w.alloc (hbox g gen)) g gs gm d (h.alloc _))
  have HM : Hid ((room d.n : Int) = ((d.n : Int) - 2) / 2) := Lib.hid (by unfold room; omega)
  rw [HM.out]
  clear h HM
  unfold hv
  unfold hbox at HS
  unfold ptr at HS ⊢
  generalize d.n = n at *
  have h2 : (2 : Int) ≤ n := by omega
  have h3 : (n : Int) ≤ 65536 := by omega
  go_enter Tryz.func75, Tryz.ntmps75
  go_wp2_with fail
  refine HS.out.mono ?_
  rintro e w1 ⟨rfl, rfl⟩
  go_wp2
  go_ret
  exact ⟨rfl, Frm.alloc_below _ _⟩
theorem head_any (w : World) (gen : Nat) : Calls Tryz.prog 102 #[.int .i64 gen] w (EndsBelow (Frm.mkV (headM gen)) w) := by
  go_enter Tryz.func102, Tryz.ntmps102
  go_wp2
  exact bodyPost_ret (v := .agg #[.int .i64 1, .int .i64 gen, .int .i64 0, .int .i64 0]) (by simp [results, Tryz.results102, go_sem]) rfl ⟨rfl, Frm.alloc_below _ _⟩
/-- A half in a box, its disk; what was made since w0. -/
structure HB (w0 w : World) (k g gs gm gen : Nat) (d : Dsk) : Prop where
  bx : w.heap[k]? = some (hbox g gen)
  dk : Dk w g gs gm d
  low : Below w0.heap.size w0 w
  lo : w0.heap.size ≤ k
theorem HB.c0 {w0 w : World} {k g gs gm gen : Nat} {d : Dsk} (h : HB w0 w k g gs gm gen d) : w.cell? ⟨k, 0, none⟩ = some (.pointer (some ⟨g, 0, none⟩)) := cell_at h.bx 0
theorem HB.c1 {w0 w : World} {k g gs gm gen : Nat} {d : Dsk} (h : HB w0 w k g gs gm gen d) : w.cell? ⟨k, 1, none⟩ = some (.int .i64 gen) := cell_at h.bx 1
theorem HB.start {w : World} {g gs gm : Nat} (gen : Nat) {d : Dsk} (h : Dk w g gs gm d) : HB w (w.alloc (hbox g gen)) w.heap.size g gs gm gen d :=
  ⟨heap_alloc_new w _, h.alloc _, Frm.alloc_below _ _, Nat.le_refl _⟩
theorem HB.call {w0 w w' : World} {k g gs gm gen : Nat} {d : Dsk} (h : HB w0 w k g gs gm gen d) (hb : Below w.heap.size w w') : HB w0 w' k g gs gm gen d :=
  ⟨(hb.block k (lt_of_heap h.bx)).trans h.bx, Dk.below h.dk hb, h.low.trans (hb.mono h.low.size), h.lo⟩
theorem HB.drew {w0 w : World} {k g gs gm gen : Nat} {d : Dsk} (h : HB w0 w k g gs gm gen d) : HB w0 w.drew k g gs gm gen d :=
  ⟨h.bx, h.dk.drewN 1, h.low.drew, h.lo⟩
theorem HB.alloc {w0 w : World} {k g gs gm gen : Nat} {d : Dsk} (h : HB w0 w k g gs gm gen d) (o : Obj) : HB w0 (w.alloc o) k g gs gm gen d := h.call (Frm.alloc_below w o)
/-- A block of another type than the disk's, which does not begin with a byte, is none of the disk's. -/
theorem apart_disk {w : World} {g gs gm k : Nat} {d : Dsk} (h : Dk w g gs gm d) {cs : Array Value} {T : TypeId} {fr : Nat × Nat} (hk : w.heap[k]? = some (.cells cs T fr)) (hT : T ≠ 101) (h0 : ∀ x, cs[0]? ≠ some (.int .u8 x)) : k ∉ [g, gs, gm] := by
  intro hm
  simp only [List.mem_cons, List.not_mem_nil, or_false] at hm
  rcases hm with rfl | rfl | rfl
  · obtain ⟨z, hz⟩ := h.hd
    rw [hz] at hk
    injection hk with hk
    injection hk with _ ht
    exact hT ht.symm
  · have h1 := h.ok.1
    have hl := h.ok.2.2.1 0 h1
    have hc := h.sf.2.2 0 h1 0 (Disk.byt ((d.safe 0).getD 0 0)) (Disk.cel_get _ 0 (by omega))
    simp only [World.cell?, hk, Nat.zero_mul, Nat.add_zero] at hc
    exact h0 _ hc
  · exact h.mp.isMap hk rfl
/-- The disk has turned. -/
theorem HB.disk {w0 w w' : World} {k g gs gm gen : Nat} {d : Dsk} (h : HB w0 w k g gs gm gen d) (ht : Turn [g, gs, gm] w w') : w'.heap[k]? = some (hbox g gen) :=
  (ht.block k (lt_of_heap h.bx) (apart_disk h.dk h.bx (by decide) (by simp [ptr]))).trans h.bx
theorem sector_any (w : World) (g gs gm : Nat) (d : Dsk) (gen pos : Nat) (h : Dk w g gs gm d) (h2 : 2 ≤ d.n) (hg : gen < 9223372036854775808) (hp : pos ≤ 100000) :
    Calls Tryz.prog 99 #[hv g gen, .int .i64 pos] w (EndsBelow (.int .i64 (secAt d.n gen pos)) w) := by
  have hn := h.ok.2.1
  have HB0 := Lib.hid (HB.start gen h)
  have HPL := Lib.hid (fun u => place_any u gen hg)
  have HRM := Lib.hid (fun u hu => room_any u g gs gm d gen hu h2)
  have HE : Hid ((secAt d.n gen pos : Int) = (2 + ((gen % 2 : Nat) : Int) * (room d.n : Int)) + (pos : Int)) := Lib.hid (by unfold secAt; push_cast; rfl)
  have hr1 : room d.n ≤ 65536 := by unfold room; omega
  have hq := Nat.mod_two_eq_zero_or_one gen
  generalize room d.n = R at *
  generalize gen % 2 = q at *
  rw [HE.out]
  unfold hv at HRM ⊢
  unfold hbox at HB0
  unfold ptr at HRM HB0 ⊢
  clear h h2 hg HE hn
  go_enter Tryz.func99, Tryz.ntmps99
  go_wp2_with fail
  generalize w.alloc (.cells #[.pointer (some ⟨g, 0, none⟩), .int .i64 gen] 105) = W at *
  have HS := Lib.hid HB0.out.drew
  refine Frm.wh_start (fun w' => HB w w' w.heap.size g gs gm gen d) (by kernel_rfl) ?_
  refine Frm.wh_take 0 5 (.pointer (some ⟨w.heap.size, 1, none⟩)) rfl rfl (by kernel_rfl) (fun _ _ _ h => h) rfl HS.out (fun w' hw' => ?_) ?_
  · go_simp
  go_frame
  refine Frm.wh_take 1 6 (.int .i64 gen) rfl rfl (by kernel_rfl) (fun _ _ _ h => h) rfl HS.out (fun w' hw' => ?_) ?_
  · have h1 := hw'.c1
    go_simp
  go_frame
  refine Frm.wh_take 3 8 (.agg #[.pointer (some ⟨g, 0, none⟩), .int .i64 gen]) rfl rfl (by kernel_rfl) (fun _ _ _ h => h) rfl HS.out (fun w' hw' => ?_) ?_
  · have h0 := hw'.c0
    have h1 := hw'.c1
    go_simp
  go_frame
  refine Frm.wh_take 7 12 (.int .i64 pos) rfl rfl (by kernel_rfl) (fun _ _ _ h => h) rfl HS.out (fun w' hw' => ?_) ?_
  · exact rfl
  go_frame
  refine Frm.wh_call 2 7 100 #[.int .i64 gen] rfl rfl (by kernel_rfl) rfl ?_ ?_
  · go_simp
  refine (HPL.out _).mono ?_
  rintro e w2 ⟨rfl, rfl⟩
  refine ⟨_, rfl, HS.out, ?_⟩
  go_frame
  refine Frm.wh_call 4 9 75 #[.agg #[.pointer (some ⟨g, 0, none⟩), .int .i64 gen]] rfl rfl (by kernel_rfl) rfl ?_ ?_
  · go_simp
  refine (HRM.out _ HS.out.dk).mono ?_
  rintro e w3 ⟨rfl, hb⟩
  have HS := Lib.hid (HS.out.call hb)
  clear hb
  refine ⟨_, rfl, HS.out, ?_⟩
  go_frame
  have hw1 : IntKind.i64.wrap ((q : Int) * (R : Int)) = (q : Int) * (R : Int) := IntWalk.i64_in _ (by rcases hq with rfl | rfl <;> omega)
  have hw2 : IntKind.i64.wrap (2 + (q : Int) * (R : Int)) = 2 + (q : Int) * (R : Int) := IntWalk.i64_in _ (by rcases hq with rfl | rfl <;> omega)
  have hw3 : IntKind.i64.wrap (2 + (q : Int) * (R : Int) + (pos : Int)) = 2 + (q : Int) * (R : Int) + (pos : Int) := IntWalk.i64_in _ (by rcases hq with rfl | rfl <;> omega)
  refine Frm.wh_take 5 10 (.int .i64 ((q : Int) * (R : Int))) rfl rfl (by kernel_rfl) (fun _ _ _ h => h) rfl HS.out (fun w' hw' => ?_) ?_
  · go_simp
  go_frame
  refine Frm.wh_take 6 11 (.int .i64 (2 + (q : Int) * (R : Int))) rfl rfl (by kernel_rfl) (fun _ _ _ h => h) rfl HS.out (fun w' hw' => ?_) ?_
  · go_simp
  go_frame
  refine Frm.wh_take 8 13 (.int .i64 (2 + (q : Int) * (R : Int) + (pos : Int))) rfl rfl (by kernel_rfl) (fun _ _ _ h => h) rfl HS.out (fun w' hw' => ?_) ?_
  · go_simp
  go_frame
  refine Frm.wh_take 9 4 (.int .i64 (2 + (q : Int) * (R : Int) + (pos : Int))) rfl rfl (by kernel_rfl) (fun _ _ _ h => h) rfl HS.out (fun w' hw' => ?_) ?_
  · exact rfl
  go_frame
  refine wpAnyH_done (by kernel_rfl) ?_ _
  go_wp2_with fail
  go_ret
  exact ⟨rfl, HS.out.low⟩
theorem i64_or32 (a b : Nat) (ha : a < 2147483648) (hb : b < 4294967296) : bits .or .i64 ((a : Int) * 4294967296) (b : Int) = (a : Int) * 4294967296 + (b : Int) := by
  have ea : (BitVec.ofInt 64 ((a : Int) * 4294967296)).toNat = 2 ^ 32 * a := by rw [BitVec.toNat_ofInt]; omega
  have eb : (BitVec.ofInt 64 (b : Int)).toNat = b := by rw [BitVec.toNat_ofInt]; omega
  have key : (BitVec.ofInt 64 ((a : Int) * 4294967296) ||| BitVec.ofInt 64 (b : Int)).toNat = 2 ^ 32 * a + b := by
    rw [BitVec.toNat_or, ea, eb, Nat.two_pow_add_eq_or_of_lt (by omega)]
  show IntKind.i64.wrap ((BitVec.ofInt 64 ((a : Int) * 4294967296) ||| BitVec.ofInt 64 (b : Int)).toNat : Nat) = _
  rw [key, IntKind.wrap_i64]
  omega
set_option maxHeartbeats 1000000 in
theorem mark_any (w : World) (g gen seq B n c : Nat) (A : Option Addr) (b : List UInt8) (h : Byts w B A n b) (hB : B ≤ w.heap.size) (hn : n ≤ 1048576) : Calls Tryz.prog 128 #[hv g gen, .int .i64 seq, .slice A n c] w (EndsBelow (Frm.mkV (markM gen seq b)) w) := by
  have hl := h.len
  have HC := Lib.hid (Frm.crc_byts ((w.alloc (hbox g gen)).alloc (.cells #[.int .i64 0, .int .i64 0, .int .i64 0, .int .i64 0] 158)) B n c A b ((h.alloc hB _).alloc (by simp; omega) _) (by omega))
  have hc := crcOf_lt b
  have HO := Lib.hid (i64_or32 n (crcOf b) (by omega) hc)
  have HM : Hid (Frm.mkV (markM gen seq b) = .agg #[.int .i64 2, .int .i64 gen, .int .i64 seq, .int .i64 ((n : Int) * 4294967296 + (crcOf b : Nat))]) := Lib.hid (by unfold Frm.mkV markM; rw [hl])
  rw [HM.out]
  unfold hv
  unfold hbox ptr at HC
  unfold ptr
  clear h hl HM
  generalize crcOf b = z at *
  have hn1 : (n : Int) ≤ 1048576 := by omega
  have hc1 : (z : Int) < 4294967296 := by omega
  go_enter Tryz.func128, Tryz.ntmps128
  go_wp2_with fail
  refine HC.out.mono ?_
  rintro e w1 ⟨rfl, rfl⟩
  go_wp2_with fail
  rw [HO.out]
  exact bodyPost_ret (v := .agg #[.int .i64 2, .int .i64 gen, .int .i64 seq, .int .i64 ((n : Int) * 4294967296 + (z : Int))]) (by simp [results, Tryz.results128, go_sem]) rfl ⟨rfl, (Frm.alloc_below _ _).alloc (by simp) _⟩
end Go.Proofs.YtdjhlhellkajfaaGreat.Jou
/-
  Slices of sectors that a call made: many appended, one behind the first one's tail. Conditions: the sizes are named.
-/
namespace Go.Proofs.YtdjhlhellkajfaaGreat.Jou
open Go.RowKit Codec FrameM Cod JourM
open Disk (Turn Dk Dsk ptr Now)
open Frm (Sct Pk)
set_option maxRecDepth 100000
/-- Sectors in a slice, in blocks from lo on. -/
structure Secs (w : World) (lo : Nat) (A : Option Addr) (n : Nat) (ls : List (List UInt8)) : Prop where
  len : ls.length = n
  at_ : 0 < n → ∃ b off, A = some ⟨b, off, none⟩ ∧ b < w.heap.size ∧ lo ≤ b ∧ ∀ j, j < n → ∃ u, w.cell? ⟨b, off + j, none⟩ = some u ∧ Sct w lo u (ls.getD j [])
theorem Secs.none_ {w : World} {lo : Nat} {A : Option Addr} : Secs w lo A 0 [] := ⟨rfl, fun h => absurd h (by omega)⟩
theorem Secs.below {w w' : World} {lo n : Nat} {A : Option Addr} {ls : List (List UInt8)} (h : Secs w lo A n ls) (hb : Below w.heap.size w w') : Secs w' lo A n ls :=
  ⟨h.len, fun hn => by
    obtain ⟨b, off, e, hl, hlo, hc⟩ := h.at_ hn
    refine ⟨b, off, e, Nat.lt_of_lt_of_le hl hb.size, hlo, fun j hj => ?_⟩
    obtain ⟨u, h1, h2⟩ := hc j hj
    exact ⟨u, (World.cell?_of_block (w := w) (hb.block b hl)).trans h1, h2.keep fun g cs hg => (hb.block g (lt_of_heap hg)).trans hg⟩⟩
theorem Secs.of_pk {w : World} {lo n c : Nat} {A : Option Addr} {ls : List (List UInt8)} (h : Pk w lo (.slice A n c) n ls) : Secs w lo A n ls := by
  obtain ⟨vs, ho, h1, h2, h3⟩ := h
  refine ⟨h2, fun hn => ?_⟩
  obtain ⟨g, cap, hv, hlo, hlt⟩ := World.ownsRow.form ho hn
  have hA : A = some ⟨g, 0, none⟩ := by injection hv
  subst hA
  refine ⟨g, 0, rfl, hlt, hlo, fun j hj => ⟨_, ?_, h3 j hj⟩⟩
  have hc := ho.cells (g := g) rfl j (vs.getD j undef) (by simp [List.getD_eq_getElem?_getD, h1, hj])
  rwa [plain_add] at hc
theorem Secs.rowsB {w : World} {lo n : Nat} {A : Option Addr} {ls : List (List UInt8)} {S : List Nat} (h : Secs w lo A n ls) (hS : ∀ k ∈ S, k < lo) : RowsB w S A n ls :=
  ⟨h.len, fun hn => by
    obtain ⟨b, off, e, hl, hlo, hc⟩ := h.at_ hn
    refine ⟨b, off, e, hl, fun hm => by have := hS b hm; omega, fun j hj => ?_⟩
    obtain ⟨u, h1, gj, rfl, hg, hlj, hs⟩ := hc j hj
    refine ⟨some ⟨gj, 0, none⟩, 64, by rw [hs]; exact h1, ⟨by rw [hs], fun _ => ⟨gj, 0, rfl, lt_of_heap hg, fun hm => by have := hS gj hm; omega, fun x hx => ?_⟩⟩, by omega, by unfold maxLen; omega⟩
    rw [cell_at hg, Nat.zero_add, ← cel_get _ x hx]
    simp⟩
theorem sct_kept {w w' : World} {lo lo0 n : Nat} {v u : Value} {vs : List Value} {s : List UInt8} (ho : w.ownsRow lo0 39 1 v n vs) (hg : w.grownBy w' v.ownBlock) (h : Sct w lo u s) : Sct w' lo u s := by
  refine h.keep fun k cs hkc => (hg.block k (lt_of_heap hkc) ?_).trans hkc
  rcases ho.2 with ⟨rfl, _⟩ | ⟨b, cap, cur, rfl, _, hgb, _⟩
  · simp [Value.ownBlock]
  · intro e
    have : b = k := by simpa [Value.ownBlock] using e.symm
    subst this
    rw [hkc] at hgb
    injection hgb with hgb
    injection hgb with _ ht
    exact absurd ht (by decide)
theorem getD_app_left {α : Type} (a b : List α) (k : Nat) (d : α) (h : k < a.length) : (a ++ b).getD k d = a.getD k d := JourM.getD_left a b k d h
theorem getD_app_right {α : Type} (a b : List α) (k : Nat) (d : α) (h : a.length ≤ k) : (a ++ b).getD k d = b.getD (k - a.length) d := JourM.getD_right a b k d h
/-- Sectors appended onto a slice of the call's own. -/
theorem run_app_pk (w : World) (ty : TypeId) (lo : Nat) (v : Value) (n : Nat) (ls : List (List UInt8)) (h : Pk w lo v n ls) (A : Option Addr) (m c : Nat) (ls2 : List (List UInt8)) (h2 : Secs w lo A m ls2) (hn : n + m ≤ 1000000) (hlo : lo ≤ w.heap.size) :
    ∃ A' c' w', (Builtin.append_ #[40, 40] ty #[v, .slice A m c]).run Tryz.prog w = .ok (.slice A' (n + m) c') w' ∧ Pk w' lo (.slice A' (n + m) c') (n + m) (ls ++ ls2) ∧ Below lo w w' ∧ w.grownBy w' v.ownBlock := by
  obtain ⟨i0, hi0, hz0, hz1, hz2⟩ := info_parts Frm.info24
  obtain ⟨vs, ho, h1, hl1, h3⟩ := h
  have key : ∃ v' w' vs', (Builtin.append_ #[40, 40] ty #[v, .slice A m c]).run Tryz.prog w = .ok v' w' ∧ w'.ownsRow lo 39 1 v' (n + m) (vs ++ vs') ∧ w.grownBy w' v.ownBlock ∧ vs'.length = m ∧ ∀ j, j < m → Sct w lo (vs'.getD j undef) (ls2.getD j []) := by
    by_cases hm : m = 0
    · subst hm
      refine ⟨v, w, [], ?_, by simpa using ho, ⟨rfl, rfl, rfl, Nat.le_refl _, fun _ _ _ => rfl⟩, rfl, fun j hj => absurd hj (by omega)⟩
      rcases ho.2 with ⟨rfl, rfl⟩ | ⟨g, cap, cur, rfl, _, _, hnc, _⟩
      · cases A <;> simp [Builtin.append_, run_underlying Tryz.underlying40, sizeOf, typeInfo, hi0, Builtin.lenOf, Builtin.firstCells, loadCells, loadCellsFrom]
      · cases A <;> simp [Builtin.append_, run_underlying Tryz.underlying40, sizeOf, typeInfo, hi0, Builtin.lenOf, Builtin.firstCells, loadCells, loadCellsFrom, hnc, storeCells]
    · obtain ⟨b, off, rfl, hl, hb, hc⟩ := h2.at_ (by omega)
      have hex : ∃ vs' : List Value, vs'.length = m ∧ ∀ j, j < m → w.cell? ⟨b, off + j, none⟩ = some (vs'.getD j undef) ∧ Sct w lo (vs'.getD j undef) (ls2.getD j []) := by
        refine ⟨(List.range m).map fun j => (w.cell? ⟨b, off + j, none⟩).getD undef, by simp, fun j hj => ?_⟩
        obtain ⟨u, hu1, hu2⟩ := hc j hj
        have e : ((List.range m).map fun j => (w.cell? ⟨b, off + j, none⟩).getD undef).getD j undef = u := by simp [List.getD_eq_getElem?_getD, hj, hu1]
        rw [e]
        exact ⟨hu1, hu2⟩
      obtain ⟨vs', hv1, hv2⟩ := hex
      obtain ⟨v', w', hrun, r1, r2, _, _⟩ := run_append_own_at (P := Tryz.prog) w lo 40 ty 39 i0 (.slice none 0 0) 1 24 Tryz.underlying40 hi0 hz0 hz1 hz2 rfl (by decide) v n vs ho ⟨b, off, none⟩ m c vs' (by omega) (fun j u hu => by
        have hj : j < m := by rw [← hv1]; exact (List.getElem?_eq_some_iff.1 hu).1
        have e := (hv2 j hj).1
        rw [plain_add, e, List.getD_eq_getElem?_getD, hu]
        rfl) (fun u hu => by
        obtain ⟨j, hj, rfl⟩ := List.getElem_of_mem hu
        obtain ⟨g, hg, _⟩ := (hv2 j (by omega)).2
        have e : vs'.getD j undef = vs'[j] := by simp [List.getD_eq_getElem?_getD, hj]
        rw [e] at hg
        rw [hg]
        rfl) (by unfold maxLen; omega) (by omega) hlo
      exact ⟨v', w', vs', hrun, r1, r2, hv1, fun j hj => (hv2 j hj).2⟩
  obtain ⟨v', w', vs', hrun, r1, r2, r3, r4⟩ := key
  have hpk : Pk w' lo v' (n + m) (ls ++ ls2) := by
    refine ⟨vs ++ vs', r1, by simp [h1, r3], by simp [hl1, h2.len], fun j hj => ?_⟩
    by_cases hjn : j < n
    · rw [getD_app_left _ _ _ _ (by omega), getD_app_left _ _ _ _ (by omega)]
      exact sct_kept ho r2 (h3 j hjn)
    · rw [getD_app_right _ _ _ _ (by omega), getD_app_right _ _ _ _ (by omega), h1, hl1]
      exact sct_kept ho r2 (r4 (j - n) (by omega))
  have hb : Below lo w w' := (Below.refl lo w).grown r2 hlo (fun k hk => (World.ownsRow.lt ho k hk).1)
  obtain ⟨A', c', rfl, _, _⟩ := hpk.form
  exact ⟨A', c', w', hrun, hpk, hb, r2⟩
theorem wpList_app_pk (w : World) {ops : Array Oper} {rest : List Oper} {o : Oper} {a : Act} {Q : Exit → Act → World → Prop} (hgd : o.guard = none) (s x : Operand)
    (ho : o.op = .call { callee := .builtin .append, args := #[s, x], argTypes := #[40, 40] })
    (lo : Nat) (v : Value) (n : Nat) (ls : List (List UInt8)) (hs : a.eval s = v) (h : Pk w lo v n ls) (A : Option Addr) (m c : Nat) (ls2 : List (List UInt8)) (hx : a.eval x = .slice A m c) (h2 : Secs w lo A m ls2) (hn : n + m ≤ 1000000) (hlo : lo ≤ w.heap.size)
    (hK : ∀ A' c' w', Pk w' lo (.slice A' (n + m) c') (n + m) (ls ++ ls2) → Below lo w w' → w.grownBy w' v.ownBlock → wpList Tryz.prog ops Q rest (a.put o.dst (.slice A' (n + m) c')) w') : wpList Tryz.prog ops Q (o :: rest) a w := by
  obtain ⟨A', c', w', hrun, k2, k3, k4⟩ := run_app_pk w o.type lo v n ls h A m c ls2 h2 hn hlo
  refine wpList_plain hgd fun _ hK' => ?_
  unfold Oper.wp execOp
  simp only [ho, resolve, invoke, builtin, Sem.run_bind, Sem.run_pure, Result.andThen_ok, List.map_toArray, List.map_cons, List.map_nil, hs, hx, hrun]
  exact hK' _ _ (hK A' c' w' k2 k3 k4)
/-- A slice of one, made of a sector of the call's own. -/
theorem pk_one (w : World) (lo g : Nat) (s : List UInt8) (hs : Sct w lo (.slice (some ⟨g, 0, none⟩) 64 64) s) (hlo : lo ≤ w.heap.size) : Pk (w.alloc (.cells #[.slice (some ⟨g, 0, none⟩) 64 64] 39)) lo (.slice (some ⟨w.heap.size, 0, none⟩) 1 1) 1 [s] := by
  refine ⟨[.slice (some ⟨g, 0, none⟩) 64 64], ⟨by simp, .inr ⟨w.heap.size, 1, _, rfl, hlo, heap_alloc_new w _, Nat.le_refl _, by unfold maxLen; omega, by simp, by simp⟩⟩, rfl, rfl, fun j hj => ?_⟩
  obtain rfl : j = 0 := by omega
  exact hs.keep fun k cs hk => (Below.heap_alloc w _ k (lt_of_heap hk)).trans hk
/-- The tail of a slice of sectors. -/
theorem size24 (w : World) : (sizeOf (Tryz.prog.elem 40)).run Tryz.prog w = .ok 1 w := by kernel_rfl
theorem cut_one (A : Option Addr) (n c : Nat) (hn : 1 ≤ n) (v : World) : (Instr.slice 40 (.slice A n c) (some (.int .i64 1)) none none).run Tryz.prog v = .ok (.slice (Frm.cutAt A 1 c) (n - 1) (c - 1)) v := by
  have h := run_slice_l (P := Tryz.prog) v 40 A n c Tryz.underlying40 .i64 ((1 : Nat) : Int) (by omega) (by omega)
  rw [size24 v] at h
  simpa [Result.andThen, sliced, Frm.cutAt] using h
theorem Secs.tail {w : World} {lo n c : Nat} {A : Option Addr} {ls : List (List UInt8)} (h : Secs w lo A n ls) (hn : n ≤ c) : Secs w lo (Frm.cutAt A 1 c) (n - 1) (ls.drop 1) :=
  ⟨by rw [List.length_drop, h.len], fun h0 => by
    obtain ⟨b, off, rfl, hl, hlo, hc⟩ := h.at_ (by omega)
    unfold Frm.cutAt
    rw [if_neg (by omega)]
    refine ⟨b, off + 1, by rw [Option.map_some, plain_add], hl, hlo, fun j hj => ?_⟩
    obtain ⟨u, h1, h2⟩ := hc (1 + j) (by omega)
    refine ⟨u, by rw [Nat.add_assoc]; exact h1, ?_⟩
    have e : (ls.drop 1).getD j [] = ls.getD (1 + j) [] := by simp [List.getD_eq_getElem?_getD, Nat.add_comm]
    rw [e]
    exact h2⟩
/-- One sector behind the tail: in the spare room, or in a new block; the whole slice is as it was. -/
theorem run_app_tail (w : World) (ty : TypeId) (lo n c : Nat) (A : Option Addr) (ls : List (List UInt8)) (h : Pk w lo (.slice A n c) n ls) (hn : 1 ≤ n) (u : Value) (s : List UInt8) (hs : Sct w lo u s) (ad : Addr) (cu : Nat) (hc : w.cell? ad = some u) (hm : n ≤ 1000000) (hlo : lo ≤ w.heap.size) :
    ∃ A' c' w', (Builtin.append_ #[40, 40] ty #[.slice (Frm.cutAt A 1 c) (n - 1) (c - 1), .slice (some ad) 1 cu]).run Tryz.prog w = .ok (.slice A' n c') w' ∧ Pk w' lo (.slice A n c) n ls ∧ Secs w' lo A' n (ls.drop 1 ++ [s]) ∧ Below lo w w' := by
  obtain ⟨i0, hi0, hz0, hz1, hz2⟩ := info_parts Frm.info24
  have hadd : ad.add 0 = ad := by unfold Addr.add; split <;> simp_all
  have hl := h.rows.len
  obtain ⟨vs, ho, h1, h2, h3⟩ := h
  have hnews : ∀ j x, ([u] : List Value)[j]? = some x → w.cell? (ad.add j) = some x := fun j x hx => by
    match j, hx with
    | 0, hx =>
      simp at hx
      subst hx
      rw [hadd]
      exact hc
  obtain ⟨gu, hu, hgu, hlu, hsl⟩ := hs
  have hone : ∀ x ∈ ([u] : List Value), x.oneCell' = true := by rw [hu]; simp [Value.oneCell']
  have hn1 : n - 1 + 1 = n := by omega
  rcases ho.2 with ⟨e, _⟩ | ⟨g, cap, cur, e, hg, hh, k1, k2, k3, k4⟩
  · injection e with _ e _
    omega
  · injection e with e1 _ e3
    subst e1 e3
    rw [Nat.mul_one] at k3 k4
    have hcl : ∀ j, j < n → cur.toList[j]? = some (vs.getD j undef) := fun j hj => by
      have : (cur.toList.take n)[j]? = vs[j]? := by rw [k4]
      rw [List.getElem?_take, if_pos hj] at this
      rw [this]
      simp [List.getD_eq_getElem?_getD, h1, hj]
    by_cases hlt : n < c
    · have hcut : Frm.cutAt (some (⟨g, 0, none⟩ : Addr)) 1 c = some ⟨g, 1, none⟩ := by unfold Frm.cutAt; rw [if_neg (by omega), Option.map_some, plain_add]
      have hf := run_firstCells_some (P := Tryz.prog) w i0.size 1 ad 1 cu [u] (by simp [hz1]) hnews
      have hst := run_storeCells_at Tryz.prog g (1 + (n - 1)) 39 [u] 0 cur w hh (by simp; omega) hone
      have hroom : n - 1 + 1 ≤ c - 1 := by omega
      have hrun : (Builtin.append_ #[40, 40] ty #[.slice (some ⟨g, 1, none⟩) (n - 1) (c - 1), .slice (some ad) 1 cu]).run Tryz.prog w =
          .ok (.slice (some ⟨g, 1, none⟩) n (c - 1)) (w.setRow g (cur.toList.take (1 + (n - 1) + 0) ++ [u] ++ cur.toList.drop (1 + (n - 1) + 0 + [u].length)).toArray) := by
        rw [hz1] at hf
        simp [Builtin.append_, run_underlying Tryz.underlying40, sizeOf, typeInfo, hi0, hz1, Builtin.lenOf, hf, plain_add, hn1]
        have hr2 : n ≤ c - 1 := by omega
        simp [hr2]
        simp at hst
        rw [hst]
        rfl
      rw [show 1 + (n - 1) + 0 = n by omega] at hrun
      have hrow := setRow_heap w g cur (cur.toList.take n ++ [u] ++ cur.toList.drop (n + [u].length)).toArray 39 (0, 0) hh
      have hoth : ∀ k, k ≠ g → (w.setRow g (cur.toList.take n ++ [u] ++ cur.toList.drop (n + [u].length)).toArray).heap[k]? = w.heap[k]? := fun k hk => setRow_other w g k _ hk
      have hszs : (w.setRow g (cur.toList.take n ++ [u] ++ cur.toList.drop (n + [u].length)).toArray).heap.size = w.heap.size := by simp
      have hB : Below lo w (w.setRow g (cur.toList.take n ++ [u] ++ cur.toList.drop (n + [u].length)).toArray) :=
        (Below.refl lo w).grown (row := some g) ⟨rfl, rfl, rfl, by rw [hszs]; exact Nat.le_refl _, fun k _ hk => hoth k (fun e => hk (by rw [e]))⟩ hlo (fun k hk => by injection hk with hk; omega)
      have hsct : ∀ {x : Value} {t : List UInt8}, Sct w lo x t → Sct (w.setRow g (cur.toList.take n ++ [u] ++ cur.toList.drop (n + [u].length)).toArray) lo x t := fun hx => hx.keep fun k cs hkc => (hoth k (by
        rintro rfl
        rw [hkc] at hh
        injection hh with hh
        injection hh with _ ht
        exact absurd ht (by decide))).trans hkc
      refine ⟨_, _, _, by rw [hcut]; exact hrun, ⟨vs, ⟨by omega, .inr ⟨g, c, _, rfl, hg, hrow, k1, k2, ?_, ?_⟩⟩, h1, h2, fun j hj => hsct (h3 j hj)⟩, ⟨by rw [List.length_append, List.length_drop, h2]; simp; omega, fun _ => ⟨g, 1, rfl, by rw [hszs]; exact lt_of_heap hh, hg, fun j hj => ?_⟩⟩, hB⟩
      · simp only [List.size_toArray, List.length_append, List.length_take, List.length_drop, Array.length_toList, List.length_cons, List.length_nil]
        omega
      · rw [Nat.mul_one, List.append_assoc, List.take_left' (by simp; omega)]
        exact k4
      · have hc1 : (w.setRow g (cur.toList.take n ++ [u] ++ cur.toList.drop (n + [u].length)).toArray).cell? ⟨g, 1 + j, none⟩ = (cur.toList.take n ++ [u] ++ cur.toList.drop (n + [u].length))[1 + j]? := by
          rw [cell_at hrow]
          simp
        by_cases hj1 : j < n - 1
        · refine ⟨vs.getD (1 + j) undef, ?_, ?_⟩
          · rw [hc1, List.append_assoc, List.getElem?_append_left (by simp; omega), List.getElem?_take, if_pos (by omega)]
            exact hcl _ (by omega)
          · have e : (ls.drop 1 ++ [s]).getD j [] = ls.getD (1 + j) [] := by
              rw [getD_app_left _ _ _ _ (by simp; omega)]
              simp [List.getD_eq_getElem?_getD, Nat.add_comm]
            rw [e]
            exact hsct (h3 _ (by omega))
        · obtain rfl : j = n - 1 := by omega
          refine ⟨u, ?_, ?_⟩
          · rw [hc1, List.append_assoc, List.getElem?_append_right (by simp; omega)]
            have : 1 + (n - 1) - (cur.toList.take n).length = 0 := by simp; omega
            rw [this]
            rfl
          · have e : (ls.drop 1 ++ [s]).getD (n - 1) [] = s := by
              rw [getD_app_right _ _ _ _ (by simp; omega), show n - 1 - (ls.drop 1).length = 0 by simp; omega]
              rfl
            rw [e]
            exact hsct ⟨gu, hu, hgu, hlu, hsl⟩
    · obtain rfl : n = c := by omega
      have holds : ∀ (b : Addr), Frm.cutAt (some (⟨g, 0, none⟩ : Addr)) 1 n = some b → ∀ j v, (vs.drop 1)[j]? = some v → w.cell? (b.add j) = some v := fun b hb j v hv => by
        have hj : j < n - 1 := by
          have := (List.getElem?_eq_some_iff.1 hv).1
          simp at this
          omega
        unfold Frm.cutAt at hb
        rw [if_neg (by omega), Option.map_some, plain_add] at hb
        injection hb with hb
        subst hb
        rw [plain_add, cell_at hh]
        have := hcl (0 + 1 + j) (by omega)
        rw [Array.getElem?_toList] at this
        rw [this]
        rw [List.getElem?_drop] at hv
        simp [List.getD_eq_getElem?_getD, hv]
      obtain ⟨b, hb⟩ : ∃ b, Frm.cutAt (some (⟨g, 0, none⟩ : Addr)) 1 n = some b := by unfold Frm.cutAt; split <;> exact ⟨_, rfl⟩
      have hrun := run_append_grow (P := Tryz.prog) w 40 ty 39 i0 (.slice none 0 0) Tryz.underlying40 hi0 hz0 b (n - 1) (n - 1) (vs.drop 1) (by rw [hz1, List.length_drop, h1]; omega) (holds b hb) ad 1 cu [u] (by simp [hz1]) hnews (by omega) (by omega)
        (growslice_fits (by omega) (by rw [hz2]; omega))
      rw [hn1] at hrun
      have hge := grownCap_ge w n (n - 1) 39
      have hB : Below lo w (w.drew.alloc (.cells ((vs.drop 1).toArray ++ [u].toArray ++ Builtin.zeroCells (Value.slice none 0 0).cells (grownCap w n (n - 1) 39 - n)) 39)) := ((Below.refl lo w).drew).alloc hlo _
      have hBw : Below w.heap.size w (w.drew.alloc (.cells ((vs.drop 1).toArray ++ [u].toArray ++ Builtin.zeroCells (Value.slice none 0 0).cells (grownCap w n (n - 1) 39 - n)) 39)) := ((Below.refl _ w).drew).alloc (Nat.le_refl _) _
      have hnew := heap_alloc_new w.drew (.cells ((vs.drop 1).toArray ++ [u].toArray ++ Builtin.zeroCells (Value.slice none 0 0).cells (grownCap w n (n - 1) 39 - n)) 39)
      have hsct : ∀ {x : Value} {t : List UInt8}, Sct w lo x t → Sct (w.drew.alloc (.cells ((vs.drop 1).toArray ++ [u].toArray ++ Builtin.zeroCells (Value.slice none 0 0).cells (grownCap w n (n - 1) 39 - n)) 39)) lo x t := fun hx => hx.keep fun k cs hkc => (hBw.block k (lt_of_heap hkc)).trans hkc
      refine ⟨_, _, _, by rw [hb]; exact hrun, Pk.below ⟨vs, ho, h1, h2, h3⟩ hBw, ⟨by rw [List.length_append, List.length_drop, h2]; simp; omega, fun _ => ⟨w.heap.size, 0, rfl, by simp, hlo, fun j hj => ?_⟩⟩, hB⟩
      have hc1 := cell_at (g := w.heap.size) hnew (0 + j)
      by_cases hj1 : j < n - 1
      · refine ⟨vs.getD (1 + j) undef, ?_, ?_⟩
        · rw [hc1, ← Array.getElem?_toList, Nat.zero_add]
          simp only [Array.toList_append, List.append_assoc]
          rw [List.getElem?_append_left (by simp; omega), List.getElem?_drop]
          simp [List.getD_eq_getElem?_getD, h1, show 1 + j < n by omega]
        · have e : (ls.drop 1 ++ [s]).getD j [] = ls.getD (1 + j) [] := by
            rw [getD_app_left _ _ _ _ (by simp; omega)]
            simp [List.getD_eq_getElem?_getD, Nat.add_comm]
          rw [e]
          exact hsct (h3 _ (by omega))
      · obtain rfl : j = n - 1 := by omega
        refine ⟨u, ?_, ?_⟩
        · rw [hc1, ← Array.getElem?_toList, Nat.zero_add]
          simp only [Array.toList_append, List.append_assoc]
          rw [List.getElem?_append_right (by simp; omega)]
          simp [h1]
        · have e : (ls.drop 1 ++ [s]).getD (n - 1) [] = s := by
            rw [getD_app_right _ _ _ _ (by simp; omega), show n - 1 - (ls.drop 1).length = 0 by simp; omega]
            rfl
          rw [e]
          exact hsct ⟨gu, hu, hgu, hlu, hsl⟩
end Go.Proofs.YtdjhlhellkajfaaGreat.Jou
/-
  What end, laid and keep of a half do: the sector of 0, a group's sectors, sectors written and synced. Conditions: the disk is known, the sectors lie apart from it.
-/
namespace Go.Proofs.YtdjhlhellkajfaaGreat.Jou
open Go.RowKit Codec FrameM Cod JourM
open Disk (Turn Dk Dsk ptr Now)
open Frm (Sct Pk)
set_option maxRecDepth 100000
/-- A slice of sectors of the call's own. -/
def Gave (w : World) (ls : List (List UInt8)) (e : Ending) (w' : World) : Prop :=
  ∃ A c, e = .returned (.slice A ls.length c) ∧ Secs w' w.heap.size A ls.length ls ∧ Below w.heap.size w w' ∧ ls.length ≤ c ∧ c ≤ maxLen
theorem zeros_nul : FrameM.zeros 64 = nul64 := rfl
set_option maxHeartbeats 1000000 in
theorem end_any (w : World) (g gs gm : Nat) (d : Dsk) (gen pos : Nat) (h : Dk w g gs gm d) (h2 : 2 ≤ d.n) (hp : pos ≤ 1000000) : Calls Tryz.prog 97 #[hv g gen, .int .i64 pos] w (Gave w (endL d.n pos)) := by
  have HB0 := Lib.hid (HB.start gen h)
  have HRM := Lib.hid (fun u hu => room_any u g gs gm d gen hu h2)
  have hn := h.ok.2.1
  have hr1 : room d.n ≤ 65536 := by unfold room; omega
  have hmk : ∀ v : World, (Instr.makeSlice 39 (.int .i64 64) (.int .i64 64)).run Tryz.prog v = .ok (.slice (some ⟨v.heap.size, 0, none⟩) 64 64) (v.alloc (.cells (cel (FrameM.zeros 64)).toArray 5)) := fun v => Frm.run_make_bytes v 64 (by omega)
  have hi1 : (pos : Int) ≤ 1000000 := by omega
  have hi2 : (room d.n : Int) ≤ 65536 := by omega
  unfold hv at HRM ⊢
  unfold hbox at HB0
  unfold ptr at HRM HB0 ⊢
  clear h h2 hn
  by_cases hlt : pos < room d.n
  · have HE : Hid (endL d.n pos = [nul64]) := Lib.hid (by unfold endL; rw [if_pos hlt])
    rw [HE.out]
    generalize room d.n = R at *
    have hi3 : (pos : Int) < R := by omega
    have hc0 := HB0.out.c0
    have hc1 := HB0.out.c1
    go_enter Tryz.func97, Tryz.ntmps97
    go_wp2_with fail
    refine (HRM.out _ HB0.out.dk).mono ?_
    rintro e w1 ⟨rfl, hb⟩
    have HS := Lib.hid (HB0.out.call hb)
    clear hb hc0 hc1
    go_wp2_with fail
    go_ret
    have hlow := HS.out.low
    have hsz := hlow.size
    have hnew := heap_alloc_new w1 (.cells (cel (FrameM.zeros 64)).toArray 5)
    have hs : Sct (w1.alloc (.cells (cel (FrameM.zeros 64)).toArray 5)) w.heap.size (.slice (some ⟨w1.heap.size, 0, none⟩) 64 64) nul64 := ⟨w1.heap.size, rfl, hnew, hsz, rfl⟩
    have hp1 := pk_one (w1.alloc (.cells (cel (FrameM.zeros 64)).toArray 5)) w.heap.size w1.heap.size nul64 hs (by simp; omega)
    rw [World.size_alloc] at hp1
    exact ⟨_, 1, rfl, Secs.of_pk hp1, (hlow.alloc hsz _).alloc (by simp; omega) _, Nat.le_refl _, by unfold maxLen; omega⟩
  · have HE : Hid (endL d.n pos = []) := Lib.hid (by unfold endL; rw [if_neg hlt])
    rw [HE.out]
    generalize room d.n = R at *
    have hi3 : (R : Int) ≤ pos := by omega
    have hc0 := HB0.out.c0
    have hc1 := HB0.out.c1
    go_enter Tryz.func97, Tryz.ntmps97
    go_wp2_with fail
    refine (HRM.out _ HB0.out.dk).mono ?_
    rintro e w1 ⟨rfl, hb⟩
    have HS := Lib.hid (HB0.out.call hb)
    clear hb hc0 hc1
    go_wp2_with fail
    go_ret
    exact ⟨none, 0, rfl, Secs.none_, HS.out.low, Nat.le_refl _, Nat.zero_le _⟩
/-- What a loop of writes has done. -/
structure KR (w0 w1 : World) (g gs gm i : Nat) (d : Dsk) (ls : List (List UInt8)) (k : Nat) (dk : Dsk) : Prop where
  disk : Dk w1 g gs gm dk
  turn : Turn [g, gs, gm] w0 w1
  num : dk.n = d.n
  yes : keepB dk (i + k) (ls.drop k) = keepB d i ls
  left : keepD dk (i + k) (ls.drop k) = keepD d i ls
theorem drop_cons (ls : List (List UInt8)) (k : Nat) (h : k < ls.length) : ls.drop k = ls.getD k [] :: ls.drop (k + 1) := by
  rw [List.drop_eq_getElem_cons h]
  simp [List.getD_eq_getElem?_getD, h]
set_option maxHeartbeats 2000000 in
theorem keep_any (w : World) (g gs gm : Nat) (d : Dsk) (gen i n c : Nat) (A : Option Addr) (ls : List (List UInt8)) (h : Dk w g gs gm d) (hr : RowsB w [g, gs, gm] A n ls) (hl : ∀ s ∈ ls, s.length = 64) (hi : i + n ≤ d.n) :
    Calls Tryz.prog 98 #[hv g gen, .int .i64 i, .slice A n c] w (Now (.int .i64 (err (keepB d i ls))) w g gs gm (keepD d i ls)) := by
  have HB0 := Lib.hid (HB.start gen h)
  have HR0 := Lib.hid (hr.below (Frm.alloc_below w (hbox g gen)))
  have hlen := hr.len
  have hnn := h.ok.2.1
  have HL := Lib.hid hl
  have hi1 : (i : Int) + n ≤ 65536 := by omega
  have HI := Lib.hid hi
  have HLEN := Lib.hid hlen
  unfold hv
  unfold hbox at HB0 HR0
  unfold ptr at HB0 HR0 ⊢
  clear h hr hl hi hlen hnn
  go_enter Tryz.func98, Tryz.ntmps98
  go_wp2_with fail
  obtain ⟨W, hW⟩ : ∃ W, w.alloc (.cells #[.pointer (some ⟨g, 0, none⟩), .int .i64 gen] 105) = W := ⟨_, rfl⟩
  rw [hW] at HB0 HR0 ⊢
  have HWT : Hid (Turn [] w W) := Lib.hid (by rw [← hW]; exact (Turn.refl [] w).alloc _)
  clear hW
  go_loopw [12] (fun i' wr => ∃ k : Nat, k ≤ n ∧ i' = .int .i64 k ∧ ∃ dk, KR W wr g gs gm i d ls k dk) (fun i' _ => n - (Go.RowKit.intOf i').toNat)
  case atStart => exact ⟨0, by omega, rfl, d, ⟨HB0.out.dk, Turn.refl _ _, rfl, rfl, rfl⟩⟩
  case round =>
    obtain ⟨k, hk, rfl, dk, hkr⟩ := hrel
    have HK := Lib.hid hkr
    have hbx := HB0.out.disk hkr.turn
    have hc0 : wr.cell? ⟨w.heap.size, 0, none⟩ = some (.pointer (some ⟨g, 0, none⟩)) := cell_at hbx 0
    clear hkr hbx
    by_cases hlt : k < n
    · obtain ⟨b, o, Aj, cj, hat⟩ := (HR0.out.turn HK.out.turn (fun k hk => .inl hk)).at hlt
      have h64 : (ls.getD k []).length = 64 := HL.out _ (by
        have := HLEN.out
        rw [Frm.getD_of (by omega)]
        exact List.getElem_mem _)
      have HX := Lib.hid (drop_cons ls k (by rw [HLEN.out]; exact hlt))
      have hidx := hat.index c
      obtain ⟨_, hcell, hbt, _⟩ := hat
      rw [h64] at hcell hbt
      obtain ⟨bj, oj, rfl, _⟩ := hbt.at_ (by omega)
      have H64 := Lib.hid h64
      have HBT := Lib.hid hbt
      clear h64 hbt
      have hw1 : (i : Int) + k ≤ 65536 := by omega
      have HIK : Hid (i + k < dk.n) := Lib.hid (by have := HI.out; rw [HK.out.num]; omega)
      generalize ls.getD k [] = x at *
      rcases Bool.eq_false_or_eq_true (go dk) with hg | hg
      · have HC := Lib.hid (write_go wr g gs gm dk HK.out.disk hg (i + k) HIK.out bj oj cj x H64.out HBT.out)
        have HG := Lib.hid hg
        clear hg
        unfold ptr at HC
        push_cast at HC
        go_wp2_with fail
        refine HC.out.mono ?_
        rintro e w2 ⟨rfl, hdk, ht⟩
        have HK2 : Hid (KR W w2 g gs gm i d ls (k + 1) (JourM.wr dk (i + k) x)) := Lib.hid ⟨hdk, HK.out.turn.trans ht, by rw [wr_n]; exact HK.out.num,
          by rw [← HK.out.yes, HX.out, keepB_cons, HG.out]; rfl, by rw [← HK.out.left, HX.out, keepD_cons, HG.out]; rfl⟩
        clear hdk ht HC
        go_wp2_with fail
        go_roundw
        case rel => exact ⟨k + 1, by omega, by go_num, _, HK2.out⟩
        case measure => simp [Go.RowKit.intOf]; omega
      · have HC := Lib.hid (write_no wr g gs gm dk HK.out.disk hg (i + k) HIK.out (some ⟨bj, oj, none⟩) cj x)
        have HE : Hid (err (keepB d i ls) = 3) := Lib.hid (by rw [← HK.out.yes, HX.out, keepB_cons, hg]; rfl)
        have HD : Hid (keepD d i ls = JourM.wr dk (i + k) x) := Lib.hid (by rw [← HK.out.left, HX.out, keepD_cons, hg]; rfl)
        rw [HE.out, HD.out]
        clear hg
        unfold ptr at HC
        push_cast at HC
        go_wp2_with fail
        refine HC.out.mono ?_
        rintro e w2 ⟨rfl, hdk, ht⟩
        have HF := Lib.hid (And.intro hdk ht)
        clear hdk ht HC
        go_wp2_with fail
        go_ret
        exact ⟨rfl, HF.out.1, (HWT.out.more (by simp)).trans (HK.out.turn.trans HF.out.2)⟩
    · obtain rfl : k = n := by omega
      have HC := Lib.hid (sync_any wr g gs gm dk HK.out.disk)
      have hdr : ls.drop k = [] := by rw [← HLEN.out]; exact List.drop_length
      have HE : Hid (err (keepB d i ls) = err (go dk)) := Lib.hid (by rw [← HK.out.yes, hdr, keepB_nil])
      have HD : Hid (keepD d i ls = sy dk) := Lib.hid (by rw [← HK.out.left, hdr, keepD_nil])
      clear hdr
      unfold ptr at HC
      generalize err (go dk) = er at *
      go_wp2_with fail
      refine HC.out.mono ?_
      rintro e w2 ⟨rfl, hdk, ht⟩
      have HF := Lib.hid (And.intro hdk ht)
      clear hdk ht HC
      go_wp2_with fail
      go_ret
      rw [HE.out, HD.out]
      exact ⟨rfl, HF.out.1, (HWT.out.more (by simp)).trans (HK.out.turn.trans HF.out.2)⟩
theorem Secs.mono {w : World} {lo lo' n : Nat} {A : Option Addr} {ls : List (List UInt8)} (h : Secs w lo A n ls) (hl : lo' ≤ lo) : Secs w lo' A n ls :=
  ⟨h.len, fun hn => by
    obtain ⟨b, off, e, h1, h2, hc⟩ := h.at_ hn
    refine ⟨b, off, e, h1, by omega, fun j hj => ?_⟩
    obtain ⟨u, k1, g, k2, k3, k4, k5⟩ := hc j hj
    exact ⟨u, k1, g, k2, k3, by omega, k5⟩⟩
def LaidP (w : World) (ls : List (List UInt8)) (e : Ending) (w' : World) : Prop :=
  ∃ A c, e = .returned (.slice A ls.length c) ∧ Pk w' w.heap.size (.slice A ls.length c) ls.length ls ∧ Below w.heap.size w w'
set_option maxHeartbeats 2000000 in
theorem laid_any (w : World) (g gen seq n c : Nat) (A : Option Addr) (b : List UInt8) (h : Byts w w.heap.size A n b) (hn : n ≤ 1048576) (hc : n ≤ c) : Calls Tryz.prog 96 #[hv g gen, .int .i64 seq, .slice A n c] w (LaidP w (laid gen seq b)) := by
  have hl := h.len
  have HX := Lib.hid h
  have HMK := Lib.hid (fun u hu hB => mark_any u g gen seq w.heap.size n c A b hu hB hn)
  have HPT := Lib.hid (fun u => Frm.put_new (markM gen seq b) u (markM_right gen seq b))
  have HML := Lib.hid (put_length (markM_right gen seq b))
  have HPK := Lib.hid (fun u hu => Frm.pack_any u n c A b hu hn hc)
  have HLD : Hid (laid gen seq b = [put (markM gen seq b)] ++ pack b) := Lib.hid rfl
  have hnd : need b.length ≤ 16384 := by unfold need; omega
  have HND := Lib.hid (pack_length b)
  have hcc : ∀ v : World, v.heap[w.heap.size]? = some (hbox g gen) → v.cell? ⟨w.heap.size, 0, none⟩ = some (.pointer (some ⟨g, 0, none⟩)) ∧ v.cell? ⟨w.heap.size, 1, none⟩ = some (.int .i64 gen) := fun v hv => ⟨cell_at hv 0, cell_at hv 1⟩
  have HCC := Lib.hid hcc
  have HB0 := Lib.hid (And.intro (heap_alloc_new w (hbox g gen)) (Frm.alloc_below w (hbox g gen)))
  unfold hv at HMK ⊢
  unfold hbox at HB0
  unfold ptr at HMK HB0 ⊢
  rw [HLD.out]
  clear h hn hl hcc HLD
  generalize markM gen seq b = M at *
  generalize put M = pm at *
  generalize hpk : pack b = pb at *
  clear hpk
  go_enter Tryz.func96, Tryz.ntmps96
  go_wp2_with fail
  have HW : Hid (Below w.heap.size w (w.alloc (.cells #[.pointer (some ⟨g, 0, none⟩), .int .i64 gen] 105))) := Lib.hid HB0.out.2
  refine (HMK.out _ (HX.out.below HW.out) HW.out.size).mono ?_
  rintro e w1 ⟨rfl, hb1⟩
  have HW1 := Lib.hid (HW.out.trans (hb1.mono HW.out.size))
  clear hb1 HMK
  unfold Frm.mkV at *
  go_wp2_with fail
  refine (HPT.out w1).mono ?_
  rintro e w2 ⟨g2, rfl, hg2, hlo2, hb2⟩
  have hz1 := HW1.out.size
  have HW2 := Lib.hid (HW1.out.trans (hb2.mono hz1))
  have HP1 := Lib.hid (pk_one w2 w.heap.size g2 pm ⟨g2, rfl, hg2, by omega, HML.out⟩ (by have := HW2.out.size; omega))
  clear hg2 hlo2 hb2 HPT hz1
  have HW3 := Lib.hid (HW2.out.alloc HW2.out.size (.cells #[.slice (some ⟨g2, 0, none⟩) 64 64] 39))
  go_wp2_with fail
  refine (HPK.out _ ((HX.out.below HW3.out).more HW3.out.size)).mono ?_
  rintro e w4 ⟨A4, k4, c4, rfl, hpk, hb4⟩
  have hk4 : k4 = pb.length := by have := hpk.rows.len; omega
  subst hk4
  have HW4 := Lib.hid (HW3.out.trans (hb4.mono HW3.out.size))
  have HP4 := Lib.hid (HP1.out.below hb4)
  have HS4 := Lib.hid ((Secs.of_pk hpk).mono HW3.out.size)
  have hpl : pb.length ≤ 16384 := by rw [HND.out]; exact hnd
  clear hpk hb4 HPK HP1
  go_wp2_with (at_builtin; (refine wpList_app_pk w4 rfl (.tmp 12) (.tmp 14) rfl w.heap.size (.slice (some ⟨w2.heap.size, 0, none⟩) 1 1) 1 [pm] rfl HP4.out A4 pb.length c4 pb rfl HS4.out (by omega) HW4.out.size ?_); intro A5 c5 w5 hp5 hb5 _; have HP5 := Lib.hid hp5; have HB5 := Lib.hid hb5; clear hp5 hb5)
  go_ret
  have e : (pm :: pb).length = 1 + pb.length := by simp; omega
  refine ⟨A5, c5, ?_, ?_, HW4.out.trans HB5.out⟩
  · rw [e]
    rfl
  · rw [e]
    exact HP5.out
end Go.Proofs.YtdjhlhellkajfaaGreat.Jou
/-
  What extend and begin of a half do: a group laid, and its mark; groups laid, and their head. Conditions: the disk is known, what is laid fits the half.
-/
namespace Go.Proofs.YtdjhlhellkajfaaGreat.Jou
open Go.RowKit Codec FrameM Cod JourM
open Disk (Turn Dk Dsk ptr Now)
open Frm (Sct Pk)
set_option maxRecDepth 100000
theorem box0 {v : World} {k g gen : Nat} (h : v.heap[k]? = some (.cells #[.pointer (some ⟨g, 0, none⟩), .int .i64 gen] 105 (0, 0))) : v.cell? ⟨k, 0, none⟩ = some (.pointer (some ⟨g, 0, none⟩)) := cell_at h 0
theorem box1 {v : World} {k g gen : Nat} (h : v.heap[k]? = some (.cells #[.pointer (some ⟨g, 0, none⟩), .int .i64 gen] 105 (0, 0))) : v.cell? ⟨k, 1, none⟩ = some (.int .i64 gen) := cell_at h 1
/-- Sectors of a call's own are kept where what lies below a block is. -/
theorem pk_drew {w : World} {lo n : Nat} {v : Value} {ls : List (List UInt8)} (h : Pk w lo v n ls) : Pk w.drew lo v n ls := h.kept (row := none) ⟨rfl, rfl, rfl, Nat.le_refl _, fun _ _ _ => rfl⟩ (fun r e => by cases e)
theorem HB.over {w0 w w' : World} {k g gs gm gen lo : Nat} {d : Dsk} (h : HB w0 w k g gs gm gen d) (hb : Below lo w w') (hk : k < lo) (hd : ∀ x ∈ [g, gs, gm], x < lo) (hl : w0.heap.size ≤ lo) : HB w0 w' k g gs gm gen d :=
  ⟨(hb.block k hk).trans h.bx, h.dk.keep (hb.block g (hd g (by simp))) (hb.block gs (hd gs (by simp))) (hb.block gm (hd gm (by simp))) hb.size, h.low.trans (hb.mono hl), h.lo⟩
/-- The first sector of a slice. -/
structure Fst (w : World) (lo b g : Nat) (s : List UInt8) : Prop where
  cell : w.cell? ⟨b, 0, none⟩ = some (.slice (some ⟨g, 0, none⟩) 64 64)
  sec : w.heap[g]? = some (.cells (cel s).toArray 5 (0, 0))
  lob : lo ≤ b
  log : lo ≤ g
  lt : b < w.heap.size
  len : s.length = 64
theorem Fst.turn {w w' : World} {lo b g : Nat} {s : List UInt8} {S : List Nat} (h : Fst w lo b g s) (ht : Turn S w w') (hS : ∀ k ∈ S, k < lo) : Fst w' lo b g s :=
  ⟨(World.cell?_of_block (w := w) (ht.block b h.lt (fun hm => by have := hS b hm; have := h.lob; omega))).trans h.cell, (ht.block g (lt_of_heap h.sec) (fun hm => by have := hS g hm; have := h.log; omega)).trans h.sec, h.lob, h.log, Nat.lt_of_lt_of_le h.lt ht.size, h.len⟩
theorem Fst.below {w w' : World} {lo b g : Nat} {s : List UInt8} (h : Fst w lo b g s) (hb : Below w.heap.size w w') : Fst w' lo b g s := h.turn (S := []) (Turn.ofBelow hb) (by simp)
theorem fst_of {w : World} {lo n c : Nat} {A : Option Addr} {s : List UInt8} {ls : List (List UInt8)} (h : Pk w lo (.slice A n c) n (s :: ls)) : ∃ b g, A = some ⟨b, 0, none⟩ ∧ Fst w lo b g s ∧ 1 ≤ n ∧ n ≤ c := by
  have hl : (s :: ls).length = n := h.rows.len
  have hn : 1 ≤ n := by simp at hl; omega
  obtain ⟨A', c', e, k1, k2⟩ := h.form
  injection e with _ _ e3
  subst e3
  obtain ⟨vs, ho, h1, h2, h3⟩ := h
  obtain ⟨b, cap, hv, hlo, hlt⟩ := World.ownsRow.form ho (by omega)
  have hA : A = some ⟨b, 0, none⟩ := by injection hv
  subst hA
  obtain ⟨g, hg, q1, q2, q3⟩ := h3 0 (by omega)
  have hc := ho.cells (g := b) rfl 0 (vs.getD 0 undef) (by simp [List.getD_eq_getElem?_getD, show 0 < vs.length by omega])
  rw [plain_add, Nat.zero_add, hg] at hc
  exact ⟨b, g, rfl, ⟨hc, q1, hlo, q2, hlt, q3⟩, hn, k1⟩
theorem Fst.rows {w : World} {lo b g : Nat} {s : List UInt8} {S : List Nat} (h : Fst w lo b g s) (hS : ∀ k ∈ S, k < lo) (hlo : lo ≤ w.heap.size) : RowsB (w.alloc (.cells #[.slice (some ⟨g, 0, none⟩) 64 64] 39)) S (some ⟨w.heap.size, 0, none⟩) 1 [s] :=
  RowsB.of_pk (pk_one w lo g s ⟨g, rfl, h.sec, h.log, h.len⟩ hlo) hS
/-- Nothing, or one sector, behind the tail. -/
theorem run_app_end (w : World) (ty : TypeId) (lo n c : Nat) (A : Option Addr) (ls : List (List UInt8)) (h : Pk w lo (.slice A n c) n ls) (hn : 1 ≤ n) (hnc : n ≤ c) (A2 : Option Addr) (m c2 : Nat) (ls2 : List (List UInt8)) (h2 : Secs w lo A2 m ls2) (hm : m ≤ 1) (hsz : n ≤ 1000000) (hlo : lo ≤ w.heap.size) :
    ∃ A' c' w', (Builtin.append_ #[40, 40] ty #[.slice (Frm.cutAt A 1 c) (n - 1) (c - 1), .slice A2 m c2]).run Tryz.prog w = .ok (.slice A' (n - 1 + m) c') w' ∧ Pk w' lo (.slice A n c) n ls ∧ Secs w' lo A' (n - 1 + m) (ls.drop 1 ++ ls2) ∧ Below lo w w' := by
  by_cases h0 : m = 0
  · subst h0
    have e : ls2 = [] := List.eq_nil_of_length_eq_zero h2.len
    subst e
    obtain ⟨i0, hi0, hz0, hz1, hz2⟩ := info_parts Frm.info24
    have hnc2 : n - 1 ≤ c - 1 := by omega
    refine ⟨Frm.cutAt A 1 c, c - 1, w, ?_, h, by rw [List.append_nil]; exact (Secs.of_pk h).tail hnc, Below.refl _ _⟩
    generalize Frm.cutAt A 1 c = X
    cases A2 <;> cases X <;> simp [Builtin.append_, run_underlying Tryz.underlying40, sizeOf, typeInfo, hi0, Builtin.lenOf, Builtin.firstCells, loadCells, loadCellsFrom, hnc2, storeCells]
  · obtain rfl : m = 1 := by omega
    obtain ⟨b, off, rfl, _, _, hc⟩ := h2.at_ (by omega)
    obtain ⟨u, hu, hs⟩ := hc 0 (by omega)
    obtain ⟨A', c', w', r1, r2, r3, r4⟩ := run_app_tail w ty lo n c A ls h hn u (ls2.getD 0 []) hs ⟨b, off, none⟩ c2 hu hsz hlo
    have e : ls2 = [ls2.getD 0 []] := by
      have := h2.len
      match ls2, this with
      | [x], _ => rfl
    rw [← e] at r3
    rw [show n - 1 + 1 = n by omega]
    exact ⟨A', c', w', r1, r2, r3, r4⟩
theorem cell_drew (w : World) (a : Addr) : w.drew.cell? a = w.cell? a := rfl
/-- An append whose run is known, once nothing else may come up. -/
theorem wh_app_run {ops : Array Oper} {Q : Exit → Act → World → Prop} {md : Region.Mode} {S : World → Prop} {fuel : Nat} {listed : Array Bool} {a : Act} {w : World} (i d : Nat) {oi : Oper} (hi : ops[i]? = some oi) (hd : oi.dst = some d) (hr : Region.ready md ops listed = [i]) (hw : Region.wanted oi (yielded ops a.tmps) = true)
    (s x : Operand) (ho : oi.op = .call { callee := .builtin .append, args := #[s, x], argTypes := #[40, 40] }) (v y u : Value) (w' : World) (hs : a.eval s = v) (hx : a.eval x = y) (hrun : (Builtin.append_ #[40, 40] oi.type #[v, y]).run Tryz.prog w = .ok u w') (hS : S w')
    (h : wpAnyH Tryz.prog md ops Q S fuel (listed.setIfInBounds i true) (a.put (some d) u) w') : wpAnyH Tryz.prog md ops Q S (fuel + 1) listed a w := by
  refine Frm.wh_run i d u w' hi hd hr hw ?_ hS h
  unfold execOp
  simp only [ho, resolve, invoke, builtin, Sem.run_bind, Sem.run_pure, Result.andThen_ok, List.map_toArray, List.map_cons, List.map_nil, hs, hx, hrun]
theorem endL_length (n pos : Nat) : (endL n pos).length ≤ 1 := by unfold endL; split <;> simp
set_option maxHeartbeats 8000000 in
theorem extend_any (w : World) (g gs gm : Nat) (d : Dsk) (gen pos seq n c : Nat) (A : Option Addr) (b : List UInt8) (h : Dk w g gs gm d) (h2 : 2 ≤ d.n) (hg : gen < 9223372036854775808) (hb : Byts w w.heap.size A n b) (hn : n ≤ 1048576) (hc : n ≤ c) (hr : pos + takes1 b ≤ room d.n) :
    Calls Tryz.prog 65 #[hv g gen, .int .i64 pos, .int .i64 seq, .slice A n c] w (Now (.int .i64 (err (extB d gen pos seq b))) w g gs gm (extD d gen pos seq b)) := by
  have hn2 := h.ok.2.1
  have hlo := Dk.lows h
  have HLO := Lib.hid hlo
  have HB0 := Lib.hid (HB.start gen h)
  have HX := Lib.hid (hb.below (Frm.alloc_below w (hbox g gen)))
  have HLD := Lib.hid (fun u hu => laid_any u g gen seq n c A b hu hn hc)
  have HEN := Lib.hid (fun u hu => end_any u g gs gm d gen (pos + takes1 b) hu h2 (by unfold room at hr; omega))
  have HSE := Lib.hid (fun u d' hd' hn' => sector_any u g gs gm d' gen (pos + 1) hd' hn' hg (by unfold room at hr; omega))
  have HSE2 := Lib.hid (fun u d' hd' hn' => sector_any u g gs gm d' gen pos hd' hn' hg (by unfold room at hr; omega))
  have HKP := Lib.hid (fun u A' c' hu hR => keep_any u g gs gm d gen (secAt d.n gen (pos + 1)) (extL d.n pos b).length c' A' (extL d.n pos b) hu hR (all64_ext d.n pos b) (by have := sec_end (gen := gen) h2 (extL_length hr); omega))
  have HKP2 := Lib.hid (fun u d' A' c' (hd' : d'.n = d.n) hu hR => keep_any u g gs gm d' gen (secAt d.n gen pos) 1 c' A' [put (markM gen seq b)] hu hR (fun s hs => by rw [List.mem_singleton.1 hs]; exact put_length (markM_right _ _ _)) (by have := sec_lt (n := d.n) (gen := gen) (pos := pos) h2 (by unfold takes1 at hr; omega); omega))
  have HLL : Hid (laid gen seq b = put (markM gen seq b) :: pack b) := Lib.hid rfl
  have HLN := Lib.hid (laid_length gen seq b)
  have HT1 : Hid (1 ≤ takes1 b) := Lib.hid (by unfold takes1; omega)
  have HXL : Hid ((laid gen seq b).drop 1 ++ endL d.n (pos + takes1 b) = extL d.n pos b) := Lib.hid rfl
  have HEL := Lib.hid (endL_length d.n (pos + takes1 b))
  have HNN := Lib.hid (keepD_n d (secAt d.n gen (pos + 1)) (extL d.n pos b))
  have H2 := Lib.hid h2
  have HXB : Hid (∀ kb, kb = keepB d (secAt d.n gen (pos + 1)) (extL d.n pos b) → (kb = false → err (extB d gen pos seq b) = 3 ∧ extD d gen pos seq b = keepD d (secAt d.n gen (pos + 1)) (extL d.n pos b)) ∧ (kb = true → extB d gen pos seq b = keepB (keepD d (secAt d.n gen (pos + 1)) (extL d.n pos b)) (secAt d.n gen pos) [put (markM gen seq b)] ∧ extD d gen pos seq b = keepD (keepD d (secAt d.n gen (pos + 1)) (extL d.n pos b)) (secAt d.n gen pos) [put (markM gen seq b)])) := Lib.hid (fun kb hk => by subst hk; exact ⟨fun hf => by unfold extB extD; rw [hf]; exact ⟨rfl, rfl⟩, fun hf => by unfold extB extD; rw [hf]; exact ⟨rfl, rfl⟩⟩)
  have hp1 : (pos : Int) ≤ 100000 := by unfold room at hr; omega
  have ht1 : (takes1 b : Int) ≤ 100000 := by unfold room at hr; omega
  generalize hi1 : secAt d.n gen (pos + 1) = i1 at *
  have HI1 := Lib.hid hi1
  clear hi1
  generalize hi2 : secAt d.n gen pos = i2 at *
  have HI2 := Lib.hid hi2
  clear hi2
  generalize extL d.n pos b = xl at *
  generalize endL d.n (pos + takes1 b) = el at *
  generalize extB d gen pos seq b = XB at *
  generalize extD d gen pos seq b = XD at *
  generalize laid gen seq b = LL at *
  generalize put (markM gen seq b) = pm at *
  generalize pack b = pb at *
  generalize takes1 b = N at *
  generalize keepB d i1 xl = kb at *
  generalize keepD d i1 xl = d1 at *
  unfold hv at *
  unfold hbox at *
  unfold ptr at *
  clear h hb hg hr hn hc h2 hn2 hlo
  go_enter Tryz.func65, Tryz.ntmps65
  go_wp2_with fail
  obtain ⟨W, hW⟩ : ∃ W, w.alloc (.cells #[.pointer (some ⟨g, 0, none⟩), .int .i64 gen] 105) = W := ⟨_, rfl⟩
  have hWs : W.heap.size = w.heap.size + 1 := by rw [← hW]; simp
  rw [hW] at HB0 HX ⊢
  have HWT : Hid (Turn [] w W) := Lib.hid (by rw [← hW]; exact (Turn.refl [] w).alloc _)
  have HWS := Lib.hid hWs
  clear hW hWs
  refine (HLD.out W (HX.out.more (by have := HWS.out; omega))).mono ?_
  rintro e w1 ⟨A9, c9, rfl, hpk, hb1⟩
  rw [HLN.out] at hpk ⊢
  have HS := Lib.hid (HB0.out.call hb1)
  have HP := Lib.hid hpk
  have HZ := Lib.hid hb1.size
  have HT : Hid (Turn [] w w1) := Lib.hid (HWT.out.trans (Turn.ofBelow hb1))
  clear hpk hb1 HLD HX
  obtain ⟨b9, g9, hA9, _, hN1, hN9⟩ := fst_of (by rw [HLL.out] at HP; exact HP.out)
  subst hA9
  have hcut := fun v => cut_one (some ⟨b9, 0, none⟩) N c9 hN1 v
  go_wp2_with fail
  have HS := Lib.hid HS.out.drew
  have HP := Lib.hid (pk_drew HP.out)
  have HT : Hid (Turn [] w w1.drew) := Lib.hid HT.out.drew
  refine Frm.wh_start (fun w' => w'.heap[w.heap.size]? = some (.cells #[.pointer (some ⟨g, 0, none⟩), .int .i64 gen] 105 (0, 0))) (by kernel_rfl) ?_
  refine Frm.wh_take 0 16 (.slice (some ⟨b9, 0, none⟩) N c9) rfl rfl (by kernel_rfl) (fun _ _ _ h => h) rfl (HS.out.bx) (fun w' hw' => ?_) ?_
  · exact rfl
  go_frame
  refine Frm.wh_take 1 17 (.slice (Frm.cutAt (some ⟨b9, 0, none⟩) 1 c9) (N - 1) (c9 - 1)) rfl rfl (by kernel_rfl) (fun _ _ _ h => h) rfl (HS.out.bx) (fun w' hw' => ?_) ?_
  · go_simp
  go_frame
  refine Frm.wh_take 2 18 (.agg #[.pointer (some ⟨g, 0, none⟩), .int .i64 gen]) rfl rfl (by kernel_rfl) (fun _ _ _ h => h) rfl (HS.out.bx) (fun w' hw' => ?_) ?_
  · have h0 := box0 hw'
    have h1 := box1 hw'
    go_simp
  go_frame
  refine Frm.wh_take 3 19 (.int .i64 pos) rfl rfl (by kernel_rfl) (fun _ _ _ h => h) rfl (HS.out.bx) (fun w' hw' => ?_) ?_
  · exact rfl
  go_frame
  refine Frm.wh_take 4 20 (.slice (some ⟨b9, 0, none⟩) N c9) rfl rfl (by kernel_rfl) (fun _ _ _ h => h) rfl (HS.out.bx) (fun w' hw' => ?_) ?_
  · exact rfl
  go_frame
  refine Frm.wh_take 5 21 (.int .i64 N) rfl rfl (by kernel_rfl) (fun _ _ _ h => h) rfl (HS.out.bx) (fun w' hw' => ?_) ?_
  · go_simp
  go_frame
  have hw1 : IntKind.i64.wrap ((pos : Int) + (N : Int)) = (pos : Int) + (N : Int) := IntWalk.i64_in _ (by omega)
  refine Frm.wh_take 6 22 (.int .i64 ((pos : Int) + (N : Int))) rfl rfl (by kernel_rfl) (fun _ _ _ h => h) rfl (HS.out.bx) (fun w' hw' => ?_) ?_
  · go_simp
  go_frame
  have HC := Lib.hid (HEN.out w1.drew HS.out.dk)
  push_cast at HC
  refine Frm.wh_call 7 23 97 #[.agg #[.pointer (some ⟨g, 0, none⟩), .int .i64 gen], .int .i64 ((pos : Int) + (N : Int))] rfl rfl (by kernel_rfl) rfl ?_ ?_
  · go_simp
  refine (HC.out).mono ?_
  rintro e w2 ⟨A8, c8, rfl, hse, hb2, _, _⟩
  have HS := Lib.hid (HS.out.call hb2)
  have HP := Lib.hid (HP.out.below hb2)
  have HSE3 := Lib.hid (hse.mono (lo' := W.heap.size) HZ.out)
  have HT : Hid (Turn [] w w2) := Lib.hid (HT.out.trans (Turn.ofBelow hb2))
  have HZ2 : Hid (W.heap.size ≤ w2.heap.size) := Lib.hid (Nat.le_trans HZ.out hb2.size)
  clear hse hb2 HC HEN
  refine ⟨_, rfl, HS.out.bx, ?_⟩
  go_frame
  obtain ⟨A', c', w3, hrun, hpk, hse, hb3⟩ := run_app_end w2 40 W.heap.size N c9 _ LL HP.out hN1 hN9 A8 el.length c8 el HSE3.out HEL.out (by omega) HZ2.out
  rw [HXL.out] at hse
  have hM : N - 1 + el.length = xl.length := by have := hse.len; omega
  rw [hM] at hrun hse
  have hlow : ∀ x ∈ [g, gs, gm], x < W.heap.size := fun x hx => by have := HLO.out x hx; have := HWS.out; omega
  have HS := Lib.hid (HS.out.over hb3 (by have := HWS.out; omega) hlow (by have := HWS.out; omega))
  have HP := Lib.hid hpk
  have HXR := Lib.hid (hse.rowsB (S := [g, gs, gm]) hlow)
  have HT : Hid (Below w.heap.size w w3) := Lib.hid ((HT.out.low (by simp) (Nat.le_refl _)).trans (hb3.mono (by have := HWS.out; omega)))
  have HZ3 : Hid (W.heap.size ≤ w3.heap.size) := Lib.hid (Nat.le_trans HZ2.out hb3.size)
  clear hpk hse hb3 hM HSE3 HZ2 HEL HXL
  refine wh_app_run 8 24 rfl rfl (by kernel_rfl) rfl (.tmp 17) (.tmp 23) rfl _ _ (.slice A' xl.length c') w3 rfl rfl hrun HS.out.bx ?_
  go_frame
  clear hrun
  refine Frm.wh_take 9 10 (.slice A' xl.length c') rfl rfl (by kernel_rfl) (fun _ _ _ h => h) rfl (HS.out.bx) (fun w' hw' => ?_) ?_
  · exact rfl
  go_frame
  refine wpAnyH_done (by kernel_rfl) ?_ _
  clear hcut hw1
  go_wp2_with fail
  have HS := Lib.hid HS.out.drew
  have HP := Lib.hid (pk_drew HP.out)
  have HXR := Lib.hid (HXR.out.turn (Turn.drew (Turn.refl [] w3)) (by simp))
  have HT : Hid (Below w.heap.size w w3.drew) := Lib.hid HT.out.drew
  refine Frm.wh_start (fun w' => w'.heap[w.heap.size]? = some (.cells #[.pointer (some ⟨g, 0, none⟩), .int .i64 gen] 105 (0, 0))) (by kernel_rfl) ?_
  refine Frm.wh_take 0 25 (.agg #[.pointer (some ⟨g, 0, none⟩), .int .i64 gen]) rfl rfl (by kernel_rfl) (fun _ _ _ h => h) rfl (HS.out.bx) (fun w' hw' => ?_) ?_
  · have h0 := box0 hw'
    have h1 := box1 hw'
    go_simp
  go_frame
  refine Frm.wh_take 1 26 (.agg #[.pointer (some ⟨g, 0, none⟩), .int .i64 gen]) rfl rfl (by kernel_rfl) (fun _ _ _ h => h) rfl (HS.out.bx) (fun w' hw' => ?_) ?_
  · have h0 := box0 hw'
    have h1 := box1 hw'
    go_simp
  go_frame
  refine Frm.wh_take 2 27 (.int .i64 pos) rfl rfl (by kernel_rfl) (fun _ _ _ h => h) rfl (HS.out.bx) (fun w' hw' => ?_) ?_
  · exact rfl
  go_frame
  have hw1 : IntKind.i64.wrap ((pos : Int) + 1) = (pos : Int) + 1 := IntWalk.i64_in _ (by omega)
  refine Frm.wh_take 3 28 (.int .i64 ((pos : Int) + 1)) rfl rfl (by kernel_rfl) (fun _ _ _ h => h) rfl (HS.out.bx) (fun w' hw' => ?_) ?_
  · go_simp
  go_frame
  refine Frm.wh_take 5 30 (.slice A' xl.length c') rfl rfl (by kernel_rfl) (fun _ _ _ h => h) rfl (HS.out.bx) (fun w' hw' => ?_) ?_
  · exact rfl
  go_frame
  have hsq := HSE.out w3.drew d HS.out.dk H2.out
  rw [HI1.out] at hsq
  push_cast at hsq
  have HC := Lib.hid hsq
  clear hsq
  refine Frm.wh_call 4 29 99 #[.agg #[.pointer (some ⟨g, 0, none⟩), .int .i64 gen], .int .i64 ((pos : Int) + 1)] rfl rfl (by kernel_rfl) rfl ?_ ?_
  · go_simp
  refine (HC.out).mono ?_
  rintro e w4 ⟨rfl, hb4⟩
  have HS := Lib.hid (HS.out.call hb4)
  have HP := Lib.hid (HP.out.below hb4)
  have HXR := Lib.hid (HXR.out.below hb4)
  have HT : Hid (Below w.heap.size w w4) := Lib.hid (HT.out.trans (hb4.mono HT.out.size))
  have HZ4 : Hid (W.heap.size ≤ w4.heap.size) := Lib.hid (Nat.le_trans HZ3.out hb4.size)
  clear hb4 HC
  refine ⟨_, rfl, HS.out.bx, ?_⟩
  go_frame
  refine Frm.wh_call 6 31 98 #[.agg #[.pointer (some ⟨g, 0, none⟩), .int .i64 gen], .int .i64 i1, .slice A' xl.length c'] rfl rfl (by kernel_rfl) rfl ?_ ?_
  · go_simp
  refine (HKP.out w4 A' c' HS.out.dk HXR.out).mono ?_
  rintro e w5 ⟨rfl, hdk, ht⟩
  have HBX := Lib.hid (HS.out.disk ht)
  have HD1 := Lib.hid hdk
  have HTT := Lib.hid ht
  obtain ⟨b9', g9', hA9, hfst, _, _⟩ := fst_of (by rw [HLL.out] at HP; exact HP.out)
  obtain rfl : b9 = b9' := by injection hA9 with e1; injection e1
  have HF := Lib.hid (hfst.turn ht hlow)
  have HZ5 : Hid (W.heap.size ≤ w5.heap.size) := Lib.hid (Nat.le_trans HZ4.out ht.size)
  clear hdk ht hfst hA9 HP HXR
  refine ⟨_, rfl, HBX.out, ?_⟩
  go_frame
  refine Frm.wh_take 7 11 (.int .i64 (err kb)) rfl rfl (by kernel_rfl) (fun _ _ _ h => h) rfl (HBX.out) (fun w' hw' => ?_) ?_
  · exact rfl
  go_frame
  refine wpAnyH_done (by kernel_rfl) ?_ _
  clear hw1
  rcases Bool.eq_false_or_eq_true kb with hk | hk
  · have HX2 := Lib.hid ((HXB.out kb rfl).2 hk)
    rw [hk]
    clear hk HXB
    have he : err true = 0 := rfl
    rw [he]
    clear he
    go_wp2_with fail
    have hidx : ∀ v : World, (Instr.indexAt 40 (.slice (some ⟨b9, 0, none⟩) N c9) (.int .i64 0)).run Tryz.prog v = .ok (.pointer (some ⟨b9, 0, none⟩)) v := fun v => by
      have h0 : 0 < N := by omega
      simp [Instr.indexAt, asIntOf, run_underlying Tryz.underlying40, Result.andThen, plain_add]
      intro h1
      omega
    have HBX := Lib.hid (And.intro HBX.out HF.out.cell)
    refine Frm.wh_start (fun w' => (w'.heap[w.heap.size]? = some (.cells #[.pointer (some ⟨g, 0, none⟩), .int .i64 gen] 105 (0, 0))) ∧ w'.cell? ⟨b9, 0, none⟩ = some (.slice (some ⟨g9', 0, none⟩) 64 64)) (by kernel_rfl) ?_
    have HBD : Hid ((w5.drew.heap[w.heap.size]? = some (.cells #[.pointer (some ⟨g, 0, none⟩), .int .i64 gen] 105 (0, 0))) ∧ w5.drew.cell? ⟨b9, 0, none⟩ = some (.slice (some ⟨g9', 0, none⟩) 64 64)) := Lib.hid ⟨HBX.out.1, (cell_drew _ _).trans HBX.out.2⟩
    refine Frm.wh_take 0 35 (.agg #[.pointer (some ⟨g, 0, none⟩), .int .i64 gen]) rfl rfl (by kernel_rfl) (fun _ _ _ h => h) rfl (HBD.out) (fun w' hw' => ?_) ?_
    · have h0 := box0 hw'.1
      have h1 := box1 hw'.1
      go_simp
    go_frame
    refine Frm.wh_take 1 36 (.agg #[.pointer (some ⟨g, 0, none⟩), .int .i64 gen]) rfl rfl (by kernel_rfl) (fun _ _ _ h => h) rfl (HBD.out) (fun w' hw' => ?_) ?_
    · have h0 := box0 hw'.1
      have h1 := box1 hw'.1
      go_simp
    go_frame
    refine Frm.wh_take 2 37 (.int .i64 pos) rfl rfl (by kernel_rfl) (fun _ _ _ h => h) rfl (HBD.out) (fun w' hw' => ?_) ?_
    · exact rfl
    go_frame
    refine Frm.wh_take 4 39 (.slice (some ⟨b9, 0, none⟩) N c9) rfl rfl (by kernel_rfl) (fun _ _ _ h => h) rfl (HBD.out) (fun w' hw' => ?_) ?_
    · exact rfl
    go_frame
    refine Frm.wh_take 5 40 (.pointer (some ⟨b9, 0, none⟩)) rfl rfl (by kernel_rfl) (fun _ _ _ h => h) rfl (HBD.out) (fun w' hw' => ?_) ?_
    · go_simp
    go_frame
    refine Frm.wh_take 6 41 (.slice (some ⟨g9', 0, none⟩) 64 64) rfl rfl (by kernel_rfl) (fun _ _ _ h => h) rfl (HBD.out) (fun w' hw' => ?_) ?_
    · have h2 := hw'.2
      go_simp
    go_frame
    have HDD : Hid (Dk w5.drew g gs gm d1) := Lib.hid (HD1.out.drewN 1)
    have HF := Lib.hid (HF.out.turn (Turn.drew (Turn.refl [] w5)) (by simp))
    have HTT : Hid (Turn [g, gs, gm] w4 w5.drew) := Lib.hid HTT.out.drew
    have HZ5 : Hid (W.heap.size ≤ w5.drew.heap.size) := Lib.hid HZ5.out
    have HC := Lib.hid (fun u hu => HSE2.out u d1 hu (by rw [HNN.out]; exact H2.out))
    have HSQ : Hid (∀ u, Dk u g gs gm d1 → Calls Tryz.prog 99 #[.agg #[.pointer (some ⟨g, 0, none⟩), .int .i64 gen], .int .i64 pos] u (EndsBelow (.int .i64 i2) u)) := Lib.hid (fun u hu => by have := HSE2.out u d1 hu (by rw [HNN.out]; exact H2.out); rwa [HNN.out, HI2.out] at this)
    skip
    generalize w5.drew = w6 at *
    refine Frm.wh_all2 3 7 (by kernel_rfl) ?_ ?_
    · refine Frm.wo_call 38 99 #[.agg #[.pointer (some ⟨g, 0, none⟩), .int .i64 gen], .int .i64 pos] rfl rfl rfl ?_ ?_
      · go_simp
      refine (HSQ.out w6 HDD.out).mono ?_
      rintro e w7 ⟨rfl, hb7⟩
      have HDD := Lib.hid (Dk.below HDD.out hb7)
      have HF := Lib.hid (HF.out.below hb7)
      have HTT : Hid (Turn [g, gs, gm] w4 w7) := Lib.hid (HTT.out.below hb7)
      have HZ5 : Hid (W.heap.size ≤ w7.heap.size) := Lib.hid (Nat.le_trans HZ5.out hb7.size)
      have HBD : Hid ((w7.heap[w.heap.size]? = some (.cells #[.pointer (some ⟨g, 0, none⟩), .int .i64 gen] 105 (0, 0))) ∧ w7.cell? ⟨b9, 0, none⟩ = some (.slice (some ⟨g9', 0, none⟩) 64 64)) := Lib.hid ⟨(hb7.block _ (lt_of_heap HBD.out.1)).trans HBD.out.1, HF.out.cell⟩
      clear hb7
      refine ⟨_, rfl, HBD.out, ?_⟩
      go_frame
      refine Frm.wh_run 7 42 (.slice (some ⟨w7.heap.size, 0, none⟩) 1 1) (w7.alloc (.cells #[.slice (some ⟨g9', 0, none⟩) 64 64] 39)) rfl rfl (by kernel_rfl) rfl ?_ (by have hba := Frm.alloc_below w7 (.cells #[.slice (some ⟨g9', 0, none⟩) 64 64] 39); exact ⟨(hba.block _ (lt_of_heap HBD.out.1)).trans HBD.out.1, (HF.out.below hba).cell⟩) ?_
      · go_simp
      go_frame
      have HRW := Lib.hid (HF.out.rows (S := [g, gs, gm]) hlow HZ5.out)
      have HDD := Lib.hid (HDD.out.alloc (.cells #[.slice (some ⟨g9', 0, none⟩) 64 64] 39))
      have hba := Frm.alloc_below w7 (.cells #[.slice (some ⟨g9', 0, none⟩) 64 64] 39)
      have HF := Lib.hid (HF.out.below hba)
      have HTT := Lib.hid (HTT.out.below hba)
      have HZ5 := Lib.hid (Nat.le_trans HZ5.out hba.size)
      have HBD := Lib.hid (And.intro ((hba.block _ (lt_of_heap HBD.out.1)).trans HBD.out.1) HF.out.cell)
      obtain ⟨kb2, hkb2⟩ : ∃ kb2, w7.heap.size = kb2 := ⟨_, rfl⟩
      rw [hkb2] at HRW ⊢
      generalize w7.alloc (.cells #[.slice (some ⟨g9', 0, none⟩) 64 64] 39) = w8 at *
      clear hba hkb2
      refine Frm.wh_call 8 43 98 #[.agg #[.pointer (some ⟨g, 0, none⟩), .int .i64 gen], .int .i64 i2, .slice (some ⟨kb2, 0, none⟩) 1 1] rfl rfl (by kernel_rfl) rfl ?_ ?_
      · go_simp
      refine (HKP2.out _ d1 _ 1 HNN.out HDD.out HRW.out).mono ?_
      rintro e w11 ⟨rfl, hdk, ht⟩
      have HFF := Lib.hid (And.intro hdk (HTT.out.trans ht))
      have HBD : Hid ((w11.heap[w.heap.size]? = some (.cells #[.pointer (some ⟨g, 0, none⟩), .int .i64 gen] 105 (0, 0))) ∧ w11.cell? ⟨b9, 0, none⟩ = some (.slice (some ⟨g9', 0, none⟩) 64 64)) := Lib.hid ⟨(ht.block _ (lt_of_heap HBD.out.1) (apart_disk HDD.out HBD.out.1 (by decide) (by simp))).trans HBD.out.1, (HF.out.turn ht hlow).cell⟩
      clear hdk ht
      refine ⟨_, rfl, HBD.out, ?_⟩
      go_frame
      refine Frm.wh_take 9 8 (.int .i64 (err (keepB d1 i2 [pm]))) rfl rfl (by kernel_rfl) (fun _ _ _ h => h) rfl (HBD.out) (fun w' hw' => ?_) ?_
      · exact rfl
      go_frame
      refine wpAnyH_done (by kernel_rfl) ?_ _
      go_wp2_with fail
      go_ret
      rw [HX2.out.1, HX2.out.2]
      exact ⟨rfl, HFF.out.1, (Turn.ofBelow (S := [g, gs, gm]) HT.out).trans HFF.out.2⟩
    · refine Frm.wo_run 42 (.slice (some ⟨w6.heap.size, 0, none⟩) 1 1) (w6.alloc (.cells #[.slice (some ⟨g9', 0, none⟩) 64 64] 39)) rfl rfl rfl ?_ ?_
      · go_simp
      refine ⟨(by have hba := Frm.alloc_below w6 (.cells #[.slice (some ⟨g9', 0, none⟩) 64 64] 39); exact ⟨(hba.block _ (lt_of_heap HBD.out.1)).trans HBD.out.1, (HF.out.below hba).cell⟩), ?_⟩
      go_frame
      have HRW := Lib.hid (HF.out.rows (S := [g, gs, gm]) hlow HZ5.out)
      have HDD := Lib.hid (HDD.out.alloc (.cells #[.slice (some ⟨g9', 0, none⟩) 64 64] 39))
      have hba := Frm.alloc_below w6 (.cells #[.slice (some ⟨g9', 0, none⟩) 64 64] 39)
      have HF := Lib.hid (HF.out.below hba)
      have HTT := Lib.hid (HTT.out.below hba)
      have HZ5 := Lib.hid (Nat.le_trans HZ5.out hba.size)
      have HBD := Lib.hid (And.intro ((hba.block _ (lt_of_heap HBD.out.1)).trans HBD.out.1) HF.out.cell)
      obtain ⟨kb2, hkb2⟩ : ∃ kb2, w6.heap.size = kb2 := ⟨_, rfl⟩
      rw [hkb2] at HRW ⊢
      generalize w6.alloc (.cells #[.slice (some ⟨g9', 0, none⟩) 64 64] 39) = w8 at *
      clear hba hkb2
      refine Frm.wh_call 3 38 99 #[.agg #[.pointer (some ⟨g, 0, none⟩), .int .i64 gen], .int .i64 pos] rfl rfl (by kernel_rfl) rfl ?_ ?_
      · go_simp
      refine (HSQ.out w8 HDD.out).mono ?_
      rintro e w9 ⟨rfl, hb7⟩
      have HDD := Lib.hid (Dk.below HDD.out hb7)
      have HF := Lib.hid (HF.out.below hb7)
      have HRW := Lib.hid (HRW.out.below hb7)
      have HTT : Hid (Turn [g, gs, gm] w4 w9) := Lib.hid (HTT.out.below hb7)
      have HZ5 : Hid (W.heap.size ≤ w9.heap.size) := Lib.hid (Nat.le_trans HZ5.out hb7.size)
      have HBD : Hid ((w9.heap[w.heap.size]? = some (.cells #[.pointer (some ⟨g, 0, none⟩), .int .i64 gen] 105 (0, 0))) ∧ w9.cell? ⟨b9, 0, none⟩ = some (.slice (some ⟨g9', 0, none⟩) 64 64)) := Lib.hid ⟨(hb7.block _ (lt_of_heap HBD.out.1)).trans HBD.out.1, HF.out.cell⟩
      clear hb7
      refine ⟨_, rfl, HBD.out, ?_⟩
      go_frame
      refine Frm.wh_call 8 43 98 #[.agg #[.pointer (some ⟨g, 0, none⟩), .int .i64 gen], .int .i64 i2, .slice (some ⟨kb2, 0, none⟩) 1 1] rfl rfl (by kernel_rfl) rfl ?_ ?_
      · go_simp
      refine (HKP2.out _ d1 _ 1 HNN.out HDD.out HRW.out).mono ?_
      rintro e w11 ⟨rfl, hdk, ht⟩
      have HFF := Lib.hid (And.intro hdk (HTT.out.trans ht))
      have HBD : Hid ((w11.heap[w.heap.size]? = some (.cells #[.pointer (some ⟨g, 0, none⟩), .int .i64 gen] 105 (0, 0))) ∧ w11.cell? ⟨b9, 0, none⟩ = some (.slice (some ⟨g9', 0, none⟩) 64 64)) := Lib.hid ⟨(ht.block _ (lt_of_heap HBD.out.1) (apart_disk HDD.out HBD.out.1 (by decide) (by simp))).trans HBD.out.1, (HF.out.turn ht hlow).cell⟩
      clear hdk ht
      refine ⟨_, rfl, HBD.out, ?_⟩
      go_frame
      refine Frm.wh_take 9 8 (.int .i64 (err (keepB d1 i2 [pm]))) rfl rfl (by kernel_rfl) (fun _ _ _ h => h) rfl (HBD.out) (fun w' hw' => ?_) ?_
      · exact rfl
      go_frame
      refine wpAnyH_done (by kernel_rfl) ?_ _
      go_wp2_with fail
      go_ret
      rw [HX2.out.1, HX2.out.2]
      exact ⟨rfl, HFF.out.1, (Turn.ofBelow (S := [g, gs, gm]) HT.out).trans HFF.out.2⟩
  · have HX2 := Lib.hid ((HXB.out kb rfl).1 hk)
    rw [hk]
    clear hk HXB
    have he : err false = 3 := rfl
    rw [he]
    clear he
    go_wp2_with fail
    go_ret
    rw [HX2.out.1, HX2.out.2]
    exact ⟨rfl, HD1.out, (Turn.ofBelow (S := [g, gs, gm]) HT.out).trans HTT.out⟩
end Go.Proofs.YtdjhlhellkajfaaGreat.Jou
/-
  What begin of a half does: groups laid from its first sector on, and its head. Conditions: the disk is known, what is laid fits the half.
-/
namespace Go.Proofs.YtdjhlhellkajfaaGreat.Jou
open Go.RowKit Codec FrameM Cod JourM
open Disk (Turn Dk Dsk ptr Now)
open Frm (Sct Pk)
set_option maxRecDepth 100000
theorem laidAll_snoc (gen k : Nat) (ls : List (List UInt8)) (h : k < ls.length) : laidAll gen 0 (ls.take (k + 1)) = laidAll gen 0 (ls.take k) ++ laid gen k (ls.getD k []) := by
  rw [List.take_succ_eq_append_getElem h, laidAll_app, Nat.zero_add, List.length_take, Nat.min_eq_left (by omega)]
  simp [laidAll, List.getD_eq_getElem?_getD, h]
theorem takes_take (ls : List (List UInt8)) (k : Nat) : takes (ls.take k) ≤ takes ls := by
  have : takes ls = takes (ls.take k) + takes (ls.drop k) := by rw [← takes_app, List.take_append_drop]
  omega
theorem takes_snoc_take (ls : List (List UInt8)) (k : Nat) (h : k < ls.length) : takes (ls.take (k + 1)) = takes (ls.take k) + takes1 (ls.getD k []) := by
  rw [List.take_succ_eq_append_getElem h, takes_snoc]
  simp [List.getD_eq_getElem?_getD, h]
/-- What the loop that lays the groups keeps. -/
structure BRel (w0 W u : World) (k0 g gs gm gen : Nat) (d : Dsk) (A : Option Addr) (n : Nat) (ls : List (List UInt8)) (k : Nat) (v : Value) : Prop where
  hb : HB w0 u k0 g gs gm gen d
  low : Below W.heap.size W u
  pk : Pk u W.heap.size v (takes (ls.take k)) (laidAll gen 0 (ls.take k))
set_option maxHeartbeats 8000000 in
theorem begin_any (w : World) (g gs gm : Nat) (d : Dsk) (gen n c : Nat) (A : Option Addr) (ls : List (List UInt8)) (h : Dk w g gs gm d) (h2 : 2 ≤ d.n) (hg : gen < 9223372036854775808) (hr : Frm.Rows w w.heap.size A n ls) (hb : ∀ b ∈ ls, b.length ≤ 1048576) (ht : takes ls ≤ room d.n) :
    Calls Tryz.prog 54 #[hv g gen, .slice A n c] w (Now (.int .i64 (err (beginB d gen ls))) w g gs gm (beginD d gen ls)) := by
  have hn2 := h.ok.2.1
  have hlo := Dk.lows h
  have HLO := Lib.hid hlo
  have HB0 := Lib.hid (HB.start gen h)
  have HX := Lib.hid ((RowsB.of_rows (S := []) hr (Nat.le_refl _) (by simp)).below (Frm.alloc_below w (hbox g gen)))
  have hlen := hr.len
  have HLEN := Lib.hid hlen
  have HBB := Lib.hid hb
  have HTK := Lib.hid ht
  have HRM : Hid (room d.n ≤ 65536) := Lib.hid (by unfold room; omega)
  have HEN := Lib.hid (fun u hu => end_any u g gs gm d gen (takes ls) hu h2 (by unfold room at ht; omega))
  have HSQ := Lib.hid (fun u hu => sector_any u g gs gm d gen 0 hu h2 hg (by omega))
  have HPL := Lib.hid (fun u => place_any u gen hg)
  have HHD := Lib.hid (fun u => head_any u gen)
  have HPT := Lib.hid (fun u => Frm.put_new (headM gen) u (headM_right gen))
  have HKP := Lib.hid (fun u A' c' hu hR => keep_any u g gs gm d gen (secAt d.n gen 0) (beginL d.n gen ls).length c' A' (beginL d.n gen ls) hu hR (all64_begin d.n gen ls) (by have := sec_end (gen := gen) (p := 0) (k := (beginL d.n gen ls).length) h2 (by rw [Nat.zero_add]; exact (beginL_length ht).1); omega))
  have HKP2 := Lib.hid (fun u d' A' c' (hd' : d'.n = d.n) hu hR => keep_any u g gs gm d' gen (gen % 2) 1 c' A' [put (headM gen)] hu hR (fun s hs => by rw [List.mem_singleton.1 hs]; exact put_length (headM_right _)) (by omega))
  have HPM := Lib.hid (put_length (headM_right gen))
  have HXL : Hid (laidAll gen 0 ls ++ endL d.n (takes ls) = beginL d.n gen ls) := Lib.hid rfl
  have HEL := Lib.hid (endL_length d.n (takes ls))
  have HNN := Lib.hid (keepD_n d (secAt d.n gen 0) (beginL d.n gen ls))
  have HXB : Hid (∀ kb, kb = keepB d (secAt d.n gen 0) (beginL d.n gen ls) → (kb = false → err (beginB d gen ls) = 3 ∧ beginD d gen ls = keepD d (secAt d.n gen 0) (beginL d.n gen ls)) ∧ (kb = true → beginB d gen ls = keepB (keepD d (secAt d.n gen 0) (beginL d.n gen ls)) (gen % 2) [put (headM gen)] ∧ beginD d gen ls = keepD (keepD d (secAt d.n gen 0) (beginL d.n gen ls)) (gen % 2) [put (headM gen)])) := Lib.hid (fun kb hk => by subst hk; exact ⟨fun hf => by unfold beginB beginD; rw [hf]; exact ⟨rfl, rfl⟩, fun hf => by unfold beginB beginD; rw [hf]; exact ⟨rfl, rfl⟩⟩)
  generalize secAt d.n gen 0 = i1 at *
  generalize beginL d.n gen ls = xl at *
  generalize endL d.n (takes ls) = el at *
  generalize beginB d gen ls = XB at *
  generalize beginD d gen ls = XD at *
  generalize put (headM gen) = pm at *
  generalize gen % 2 = i2 at *
  generalize keepB d i1 xl = kb at *
  generalize keepD d i1 xl = d1 at *
  unfold hv at *
  unfold hbox at *
  unfold ptr at *
  clear h hb hg hr h2 hn2 hlo hlen ht
  go_enter Tryz.func54, Tryz.ntmps54
  go_wp2_with fail
  obtain ⟨W, hW⟩ : ∃ W, w.alloc (.cells #[.pointer (some ⟨g, 0, none⟩), .int .i64 gen] 105) = W := ⟨_, rfl⟩
  have hWs : W.heap.size = w.heap.size + 1 := by rw [← hW]; simp
  rw [hW] at HB0 HX ⊢
  have HWT : Hid (Below w.heap.size w W) := Lib.hid (by rw [← hW]; exact Frm.alloc_below _ _)
  have HWS := Lib.hid hWs
  clear hW hWs
  go_loopw [5, 11] (fun v i' wr => ∃ k : Nat, k ≤ n ∧ i' = .int .i64 k ∧ BRel w W wr w.heap.size g gs gm gen d A n ls k v) (fun _ i' _ => n - (Go.RowKit.intOf i').toNat)
  case atStart => exact ⟨0, by omega, rfl, HB0.out, Below.refl _ _, by simpa [laidAll, takes] using Frm.Pk.nil⟩
  case round =>
    obtain ⟨k, hk, rfl, hrl⟩ := hrel
    have HK := Lib.hid hrl
    clear hrl
    have hlow : ∀ x ∈ [g, gs, gm], x < W.heap.size := fun x hx => by have := HLO.out x hx; have := HWS.out; omega
    have hwk : w.heap.size < W.heap.size := by have := HWS.out; omega
    have HLW := Lib.hid (And.intro hlow hwk)
    clear hlow hwk
    have hc0 := box0 HK.out.hb.bx
    have hc1 := box1 HK.out.hb.bx
    by_cases hlt : k < n
    · obtain ⟨b, o, Aj, cj, hat⟩ := (HX.out.below HK.out.low).at hlt
      have hkl : k < ls.length := by rw [HLEN.out]; exact hlt
      have hle : (ls.getD k []).length ≤ 1048576 := HBB.out _ (by rw [Frm.getD_of hkl]; exact List.getElem_mem _)
      have HLS := Lib.hid (laidAll_snoc gen k ls hkl)
      have HTS := Lib.hid (takes_snoc_take ls k hkl)
      have htt : takes (ls.take (k + 1)) ≤ 65536 := by have := takes_take ls (k + 1); have := HTK.out; have := HRM.out; omega
      have HTT := Lib.hid htt
      have hidx := hat.index c
      obtain ⟨_, hcell, hbt, hlc, hcm, _⟩ := hat
      have HLD := Lib.hid (laid_any wr g gen k _ cj Aj (ls.getD k []) hbt.byts hle hlc)
      have HLN := Lib.hid (laid_length gen k (ls.getD k []))
      have hi64 : (k : Int) ≤ 1000000 := by have := takes_length ls; have := HTK.out; have := HRM.out; have := HLEN.out; omega
      unfold hv ptr at HLD
      clear hbt hkl htt hle hlc hcm
      generalize laid gen k (ls.getD k []) = ll at *
      generalize (ls.getD k []).length = lx at *
      go_wp2_with fail
      refine HLD.out.mono ?_
      rintro e w2 ⟨A2, c2, rfl, hpk, hb2⟩
      rw [HLN.out] at hpk ⊢
      have HP := Lib.hid (HK.out.pk.below hb2)
      have HSS := Lib.hid ((Secs.of_pk hpk).mono HK.out.low.size)
      have HBH := Lib.hid (HK.out.hb.call hb2)
      have HLL := Lib.hid (HK.out.low.trans (hb2.mono HK.out.low.size))
      clear hpk hb2 HLD hidx hcell
      obtain ⟨A1, c1, hv1, _, _⟩ := HP.out.form
      subst hv1
      have hsum : takes (ls.take k) + takes1 (ls.getD k []) ≤ 1000000 := by have := HTT.out; have := HTS.out; omega
      go_wp2_with (at_builtin; (refine wpList_app_pk w2 rfl (.tmp 16) (.tmp 20) rfl W.heap.size (.slice A1 (takes (ls.take k)) c1) _ _ rfl HP.out A2 _ c2 ll rfl HSS.out hsum HLL.out.size ?_); intro A3 c3 w3 hp3 hb3 _; have HP3 := Lib.hid hp3; have HB3 := Lib.hid hb3; clear hp3 hb3)
      go_roundw
      case rel =>
        refine ⟨k + 1, by omega, by go_num, HBH.out.over HB3.out HLW.out.2 HLW.out.1 (Nat.le_of_lt HLW.out.2), HLL.out.trans HB3.out, ?_⟩
        rw [HLS.out, HTS.out]
        exact HP3.out
      case measure => simp [Go.RowKit.intOf]; omega
    · obtain rfl : k = n := by omega
      have htk : ls.take k = ls := List.take_of_length_le (by rw [HLEN.out]; exact Nat.le_refl _)
      have hpk := HK.out.pk
      rw [htk] at hpk
      have HP := Lib.hid hpk
      obtain ⟨A1, c1, hv1, _, _⟩ := hpk.form
      subst hv1
      clear hpk htk
      have HS := Lib.hid HK.out.hb
      have HT := Lib.hid HK.out.low
      have HPN : Hid ((laidAll gen 0 ls).length = takes ls) := Lib.hid (laidAll_length gen 0 ls)
      have hm1 : (takes ls : Int) ≤ 65536 := by have := HTK.out; have := HRM.out; omega
      have HM1 : Hid (takes ls ≤ 65536) := Lib.hid (by have := HTK.out; have := HRM.out; omega)
      clear HK HTK
      generalize laidAll gen 0 ls = la at *
      generalize takes ls = m at *
      have HC := Lib.hid (HEN.out wr HS.out.dk)
      go_wp2_with fail
      refine HC.out.mono ?_
      rintro e w2 ⟨A8, c8, rfl, hse, hb2, _, _⟩
      have HP := Lib.hid (HP.out.below hb2)
      have HSS := Lib.hid (hse.mono HT.out.size)
      have HS := Lib.hid (HS.out.call hb2)
      have HT := Lib.hid (HT.out.trans (hb2.mono HT.out.size))
      clear hse hb2 HC HEN hc0 hc1
      have hsum : m + el.length ≤ 1000000 := by have := HEL.out; have := HM1.out; omega
      go_wp2_with (at_builtin; (refine wpList_app_pk w2 rfl (.tmp 23) (.tmp 27) rfl W.heap.size (.slice A1 m c1) m la rfl HP.out A8 _ c8 el rfl HSS.out hsum HT.out.size ?_); intro A3 c3 w3 hp3 hb3 _; have HP3 := Lib.hid hp3; have HB3 := Lib.hid hb3; clear hp3 hb3)
      have hp3 := HP3.out
      rw [HXL.out] at hp3
      have hM : m + el.length = xl.length := by have := hp3.rows.len; omega
      rw [hM] at hp3
      have HS := Lib.hid (HS.out.over HB3.out HLW.out.2 HLW.out.1 (Nat.le_of_lt HLW.out.2))
      have HT := Lib.hid (HT.out.trans HB3.out)
      have HXR := Lib.hid ((Secs.of_pk hp3).rowsB (S := [g, gs, gm]) HLW.out.1)
      rw [hM]
      clear hp3 hM hsum HP3 HB3 HP HSS HXL HEL
      have HS := Lib.hid HS.out.drew
      have HXR := Lib.hid (HXR.out.turn (Turn.drew (Turn.refl [] w3)) (by simp))
      have HT : Hid (Below w.heap.size w w3.drew) := Lib.hid ((HWT.out.trans (HT.out.mono (by have := HLW.out.2; omega))).drew)
      refine Frm.wh_start (fun w' => w'.heap[w.heap.size]? = some (.cells #[.pointer (some ⟨g, 0, none⟩), .int .i64 gen] 105 (0, 0))) (by kernel_rfl) ?_
      refine Frm.wh_take 0 29 (.agg #[.pointer (some ⟨g, 0, none⟩), .int .i64 gen]) rfl rfl (by kernel_rfl) (fun _ _ _ h => h) rfl (HS.out.bx) (fun w' hw' => ?_) ?_
      · have h0 := box0 hw'
        have h1 := box1 hw'
        go_simp
      go_frame
      refine Frm.wh_take 1 30 (.agg #[.pointer (some ⟨g, 0, none⟩), .int .i64 gen]) rfl rfl (by kernel_rfl) (fun _ _ _ h => h) rfl (HS.out.bx) (fun w' hw' => ?_) ?_
      · have h0 := box0 hw'
        have h1 := box1 hw'
        go_simp
      go_frame
      refine Frm.wh_take 3 32 (.slice A3 xl.length c3) rfl rfl (by kernel_rfl) (fun _ _ _ h => h) rfl (HS.out.bx) (fun w' hw' => ?_) ?_
      · exact rfl
      go_frame
      have hsq := HSQ.out w3.drew HS.out.dk
      have HC := Lib.hid hsq
      clear hsq
      refine Frm.wh_call 2 31 99 #[.agg #[.pointer (some ⟨g, 0, none⟩), .int .i64 gen], .int .i64 0] rfl rfl (by kernel_rfl) rfl ?_ ?_
      · go_simp
      refine (HC.out).mono ?_
      rintro e w4 ⟨rfl, hb4⟩
      have HS := Lib.hid (HS.out.call hb4)
      have HXR := Lib.hid (HXR.out.below hb4)
      have HT : Hid (Below w.heap.size w w4) := Lib.hid (HT.out.trans (hb4.mono HT.out.size))
      clear hb4 HC
      refine ⟨_, rfl, HS.out.bx, ?_⟩
      go_frame
      refine Frm.wh_call 4 33 98 #[.agg #[.pointer (some ⟨g, 0, none⟩), .int .i64 gen], .int .i64 i1, .slice A3 xl.length c3] rfl rfl (by kernel_rfl) rfl ?_ ?_
      · go_simp
      refine (HKP.out w4 A3 c3 HS.out.dk HXR.out).mono ?_
      rintro e w5 ⟨rfl, hdk, ht⟩
      have HBX := Lib.hid (HS.out.disk ht)
      have HD1 := Lib.hid hdk
      have HTT := Lib.hid ht
      clear hdk ht HXR
      refine ⟨_, rfl, HBX.out, ?_⟩
      go_frame
      refine Frm.wh_take 5 8 (.int .i64 (err kb)) rfl rfl (by kernel_rfl) (fun _ _ _ h => h) rfl (HBX.out) (fun w' hw' => ?_) ?_
      · exact rfl
      go_frame
      refine wpAnyH_done (by kernel_rfl) ?_ _
      rcases Bool.eq_false_or_eq_true kb with hk | hk
      · have HX2 := Lib.hid ((HXB.out kb rfl).2 hk)
        rw [hk]
        clear hk HXB
        have he : err true = 0 := rfl
        rw [he]
        clear he
        go_wp2_with fail
        have HBD : Hid (w5.drew.heap[w.heap.size]? = some (.cells #[.pointer (some ⟨g, 0, none⟩), .int .i64 gen] 105 (0, 0))) := Lib.hid HBX.out
        refine Frm.wh_start (fun w' => w'.heap[w.heap.size]? = some (.cells #[.pointer (some ⟨g, 0, none⟩), .int .i64 gen] 105 (0, 0))) (by kernel_rfl) ?_
        refine Frm.wh_take 0 37 (.agg #[.pointer (some ⟨g, 0, none⟩), .int .i64 gen]) rfl rfl (by kernel_rfl) (fun _ _ _ h => h) rfl (HBD.out) (fun w' hw' => ?_) ?_
        · have h0 := box0 hw'
          have h1 := box1 hw'
          go_simp
        go_frame
        refine Frm.wh_take 1 38 (.pointer (some ⟨w.heap.size, 1, none⟩)) rfl rfl (by kernel_rfl) (fun _ _ _ h => h) rfl (HBD.out) (fun w' hw' => ?_) ?_
        · go_simp
        go_frame
        refine Frm.wh_take 2 39 (.int .i64 gen) rfl rfl (by kernel_rfl) (fun _ _ _ h => h) rfl (HBD.out) (fun w' hw' => ?_) ?_
        · have h0 := box0 hw'
          have h1 := box1 hw'
          go_simp
        go_frame
        refine Frm.wh_take 4 41 (.pointer (some ⟨w.heap.size, 1, none⟩)) rfl rfl (by kernel_rfl) (fun _ _ _ h => h) rfl (HBD.out) (fun w' hw' => ?_) ?_
        · go_simp
        go_frame
        refine Frm.wh_take 5 42 (.int .i64 gen) rfl rfl (by kernel_rfl) (fun _ _ _ h => h) rfl (HBD.out) (fun w' hw' => ?_) ?_
        · have h0 := box0 hw'
          have h1 := box1 hw'
          go_simp
        go_frame
        have HDD : Hid (Dk w5.drew g gs gm d1) := Lib.hid (HD1.out.drewN 1)
        have HTT : Hid (Turn [g, gs, gm] w4 w5.drew) := Lib.hid HTT.out.drew
        generalize w5.drew = w6 at *
        refine Frm.wh_call 3 40 100 #[.int .i64 gen] rfl rfl (by kernel_rfl) rfl ?_ ?_
        · go_simp
        refine (HPL.out w6).mono ?_
        rintro e w7 ⟨rfl, rfl⟩
        refine ⟨_, rfl, HBD.out, ?_⟩
        go_frame
        refine Frm.wh_call 6 43 102 #[.int .i64 gen] rfl rfl (by kernel_rfl) rfl ?_ ?_
        · go_simp
        refine (HHD.out w6).mono ?_
        rintro e w7 ⟨rfl, hb7⟩
        have HDD := Lib.hid (Dk.below HDD.out hb7)
        have HTT := Lib.hid (HTT.out.below hb7)
        have HBD : Hid (w7.heap[w.heap.size]? = some (.cells #[.pointer (some ⟨g, 0, none⟩), .int .i64 gen] 105 (0, 0))) := Lib.hid ((hb7.block _ (lt_of_heap HBD.out)).trans HBD.out)
        clear hb7
        refine ⟨_, rfl, HBD.out, ?_⟩
        go_frame
        unfold Frm.mkV headM at *
        dsimp only at *
        refine Frm.wh_call 7 44 101 #[.agg #[.int .i64 1, .int .i64 gen, .int .i64 0, .int .i64 0]] rfl rfl (by kernel_rfl) rfl ?_ ?_
        · go_simp
        refine (HPT.out w7).mono ?_
        rintro e w8 ⟨g8, rfl, hg8, hlo8, hb8⟩
        have HRW := Lib.hid (RowsB.of_pk (S := [g, gs, gm]) (pk_one w8 w7.heap.size g8 pm ⟨g8, rfl, hg8, hlo8, HPM.out⟩ hb8.size) (Dk.lows HDD.out))
        have HDD := Lib.hid (Dk.below HDD.out hb8)
        have HTT := Lib.hid (HTT.out.below hb8)
        have HBD : Hid (w8.heap[w.heap.size]? = some (.cells #[.pointer (some ⟨g, 0, none⟩), .int .i64 gen] 105 (0, 0))) := Lib.hid ((hb8.block _ (lt_of_heap HBD.out)).trans HBD.out)
        clear hg8 hlo8 hb8
        refine ⟨_, rfl, HBD.out, ?_⟩
        go_frame
        refine Frm.wh_run 8 45 (.slice (some ⟨w8.heap.size, 0, none⟩) 1 1) (w8.alloc (.cells #[.slice (some ⟨g8, 0, none⟩) 64 64] 39)) rfl rfl (by kernel_rfl) rfl ?_ ((Below.heap_alloc w8 _ _ (lt_of_heap HBD.out)).trans HBD.out) ?_
        · go_simp
        go_frame
        have hba := Frm.alloc_below w8 (.cells #[.slice (some ⟨g8, 0, none⟩) 64 64] 39)
        have HDD := Lib.hid (Dk.below HDD.out hba)
        have HTT := Lib.hid (HTT.out.below hba)
        have HBD := Lib.hid ((hba.block _ (lt_of_heap HBD.out)).trans HBD.out)
        clear hba
        refine Frm.wh_call 9 46 98 #[.agg #[.pointer (some ⟨g, 0, none⟩), .int .i64 gen], .int .i64 i2, .slice (some ⟨w8.heap.size, 0, none⟩) 1 1] rfl rfl (by kernel_rfl) rfl ?_ ?_
        · go_simp
        refine (HKP2.out _ d1 _ 1 HNN.out HDD.out HRW.out).mono ?_
        rintro e w11 ⟨rfl, hdk, ht⟩
        have HFF := Lib.hid (And.intro hdk (HTT.out.trans ht))
        have HBD : Hid (w11.heap[w.heap.size]? = some (.cells #[.pointer (some ⟨g, 0, none⟩), .int .i64 gen] 105 (0, 0))) := Lib.hid ((ht.block _ (lt_of_heap HBD.out) (apart_disk HDD.out HBD.out (by decide) (by simp))).trans HBD.out)
        clear hdk ht
        refine ⟨_, rfl, HBD.out, ?_⟩
        go_frame
        refine Frm.wh_take 10 4 (.int .i64 (err (keepB d1 i2 [pm]))) rfl rfl (by kernel_rfl) (fun _ _ _ h => h) rfl (HBD.out) (fun w' hw' => ?_) ?_
        · exact rfl
        go_frame
        refine wpAnyH_done (by kernel_rfl) ?_ _
        go_wp2_with fail
        go_ret
        rw [HX2.out.1, HX2.out.2]
        exact ⟨rfl, HFF.out.1, (Turn.ofBelow (S := [g, gs, gm]) HT.out).trans HFF.out.2⟩
      · have HX2 := Lib.hid ((HXB.out kb rfl).1 hk)
        rw [hk]
        clear hk HXB
        have he : err false = 3 := rfl
        rw [he]
        clear he
        go_wp2_with fail
        go_ret
        rw [HX2.out.1, HX2.out.2]
        exact ⟨rfl, HD1.out, (Turn.ofBelow (S := [g, gs, gm]) HT.out).trans HTT.out⟩
end Go.Proofs.YtdjhlhellkajfaaGreat.Jou
/-
  What headIn and newest of a half read of a disk: which generation counts. Conditions: the disk is known, its power is on.
-/
namespace Go.Proofs.YtdjhlhellkajfaaGreat.Jou
open Go.RowKit Codec FrameM Cod JourM
open Disk (Turn Dk Dsk ptr Now)
open Frm (Sct Pk)
set_option maxRecDepth 100000
theorem getM_pos (xs : List UInt8) : 0 ≤ (getM xs).gen ∧ (getM xs).gen ≤ 9223372036854775807 ∧ 0 ≤ (getM xs).n ∧ (getM xs).n ≤ 9223372036854775807 := by
  cases h : getB xs with
  | false => rw [getM_no h]; simp [zeroM]
  | true =>
    obtain ⟨m, hr, _, hm⟩ := getB_halves h
    have hf := readM_fits xs
    rw [← getM_yes h] at hf
    obtain ⟨_, _, h3, _, h5⟩ := right_iff.1 hr
    rw [← hm] at h3 h5
    exact ⟨h3, hf.gen.2, h5, hf.n.2⟩
/-- A mark in a box. -/
def mbox (k s q n : Int) : Obj := .cells #[.int .i64 k, .int .i64 s, .int .i64 q, .int .i64 n] 158
structure Two (w' : World) (k0 kb g gen : Nat) (a b c e : Int) : Prop where
  bx : w'.heap[k0]? = some (.cells #[.pointer (some ⟨g, 0, none⟩), .int .i64 gen] 105 (0, 0))
  mb : w'.heap[kb]? = some (mbox a b c e)
theorem Two.c {w' : World} {k0 kb g gen : Nat} {a b c e : Int} (h : Two w' k0 kb g gen a b c e) : w'.cell? ⟨kb, 0, none⟩ = some (.int .i64 a) ∧ w'.cell? ⟨kb, 1, none⟩ = some (.int .i64 b) ∧ w'.cell? ⟨kb, 2, none⟩ = some (.int .i64 c) ∧ w'.cell? ⟨kb, 3, none⟩ = some (.int .i64 e) :=
  ⟨cell_at h.mb 0, cell_at h.mb 1, cell_at h.mb 2, cell_at h.mb 3⟩
theorem Two.below {w0 w' : World} {k0 kb g gen : Nat} {a b c e : Int} (h : Two w0 k0 kb g gen a b c e) (hb : Below w0.heap.size w0 w') : Two w' k0 kb g gen a b c e := ⟨(hb.block _ (lt_of_heap h.bx)).trans h.bx, (hb.block _ (lt_of_heap h.mb)).trans h.mb⟩
theorem eq_cases (m o : Mk) : (m.eq o = true ∧ (m.kind == o.kind) = true ∧ (m.gen == o.gen) = true ∧ (m.seq == o.seq) = true ∧ (m.n == o.n) = true) ∨ (m.eq o = false ∧ ((m.kind == o.kind) = false ∨ ((m.kind == o.kind) = true ∧ (m.gen == o.gen) = false) ∨ ((m.kind == o.kind) = true ∧ (m.gen == o.gen) = true ∧ (m.seq == o.seq) = false) ∨
    ((m.kind == o.kind) = true ∧ (m.gen == o.gen) = true ∧ (m.seq == o.seq) = true ∧ (m.n == o.n) = false))) := by
  unfold Mk.eq
  cases h1 : (m.kind == o.kind) <;> cases h2 : (m.gen == o.gen) <;> cases h3 : (m.seq == o.seq) <;> cases h4 : (m.n == o.n) <;> simp_all
set_option maxHeartbeats 4000000 in
theorem headIn_any (w : World) (g gs gm : Nat) (d : Dsk) (gen i : Nat) (h : Dk w g gs gm d) (ho : d.off = false) : Calls Tryz.prog 95 #[hv g gen, .int .i64 i] w (EndsBelow (.int .i64 (headIn (rd d) i)) w) := by
  have hn2 := h.ok.2.1
  have HB0 := Lib.hid (HB.start gen h)
  have HRD := Lib.hid (fun u hu => read_any u g gs gm d hu ho i)
  have HGT := Lib.hid (fun u B m c A hx hB hc hm => Frm.fget_any u B m c A (rd d i) hx hB hc hm)
  have hmp := getM_pos (rd d i)
  obtain ⟨M, hM⟩ : ∃ M, getM (rd d i) = M := ⟨_, rfl⟩
  obtain ⟨G, hG⟩ : ∃ G : Nat, (getM (rd d i)).gen = G := ⟨(getM (rd d i)).gen.toNat, by omega⟩
  have HH : Hid (headIn (rd d) i = if M.eq (headM G) && decide (G % 2 = i) then G else 0) := Lib.hid (by unfold headIn headB; rw [hG, hM]; rfl)
  rw [hM] at HGT hmp hG
  have HHD := Lib.hid (fun u => head_any u G)
  have HPL := Lib.hid (fun u => place_any u G (by omega))
  have hec := eq_cases M (headM G)
  generalize getB (rd d i) = ok at *
  generalize rd d i = xs at *
  obtain ⟨m0, m1, m2, m3⟩ := M
  dsimp only at hG hmp
  subst hG
  unfold Frm.tupV Frm.mkV headM at *
  dsimp only at *
  unfold hv at *
  unfold hbox at *
  unfold ptr at *
  clear h ho hn2 hM
  rcases hec with ⟨he, e0, e1, e2, e3⟩ | ⟨he, hne⟩
  · by_cases hp : G % 2 = i
    · have HV : Hid (headIn (rd d) i = G) := Lib.hid (by rw [HH.out, he, hp]; simp)
      have HPP : Hid (G % 2 = i) := Lib.hid hp
      rw [HV.out]
      clear HH HV he hp
      generalize G % 2 = r at *
      go_enter Tryz.func95, Tryz.ntmps95
      have hc0 := HB0.out.c0
      go_wp2_with fail
      refine (HRD.out _ HB0.out.dk).mono ?_
      rintro e w1 ⟨A1, c1, z1, rfl, hy1, hb1, hc1, hm1, _⟩
      have HS := Lib.hid (HB0.out.call hb1)
      have HY := Lib.hid hy1
      clear hy1 hb1 hc0
      go_wp2_with fail
      refine (HGT.out w1 w1.heap.size xs.length c1 A1 HY.out (Nat.le_refl _) hc1 hm1).mono ?_
      rintro e w2 ⟨rfl, hb2⟩
      have HS := Lib.hid (HS.out.call hb2)
      clear hb2 HY hc1 hm1
      go_upto_region 3 with fail
      have HT : Hid (Two (w2.alloc (.cells #[.int .i64 m0, .int .i64 G, .int .i64 m2, .int .i64 m3] 158)) w.heap.size w2.heap.size g gen m0 G m2 m3) := Lib.hid ⟨(Below.heap_alloc w2 _ _ (lt_of_heap HS.out.bx)).trans HS.out.bx, heap_alloc_new w2 _⟩
      have HLW := Lib.hid (HS.out.low.alloc HS.out.low.size (.cells #[.int .i64 m0, .int .i64 G, .int .i64 m2, .int .i64 m3] 158))
      generalize w2.alloc (.cells #[.int .i64 m0, .int .i64 G, .int .i64 m2, .int .i64 m3] 158) = w3 at *
      generalize w2.heap.size = kb at *
      have HT : Hid (Two w3.drew w.heap.size kb g gen m0 G m2 m3) := Lib.hid ⟨HT.out.bx, HT.out.mb⟩
      have HLW := Lib.hid HLW.out.drew
      refine Frm.wh_start (fun w' => Two w' w.heap.size kb g gen m0 G m2 m3) (by kernel_rfl) ?_
      refine Frm.wh_take 0 21 (.agg #[.int .i64 m0, .int .i64 G, .int .i64 m2, .int .i64 m3]) rfl rfl (by kernel_rfl) (fun _ _ _ h => h) rfl (HT.out) (fun w' hw' => ?_) ?_
      · obtain ⟨q0, q1, q2, q3⟩ := hw'.c
        go_simp
      go_frame
      refine Frm.wh_take 1 22 (.pointer (some ⟨kb, 1, none⟩)) rfl rfl (by kernel_rfl) (fun _ _ _ h => h) rfl (HT.out) (fun w' hw' => ?_) ?_
      · go_simp
      go_frame
      refine Frm.wh_take 2 23 (.int .i64 G) rfl rfl (by kernel_rfl) (fun _ _ _ h => h) rfl (HT.out) (fun w' hw' => ?_) ?_
      · obtain ⟨q0, q1, q2, q3⟩ := hw'.c
        go_simp
      go_frame
      generalize w3.drew = w4 at *
      refine Frm.wh_call 3 24 102 #[.int .i64 G] rfl rfl (by kernel_rfl) rfl ?_ ?_
      · go_simp
      refine (HHD.out w4).mono ?_
      rintro e w5 ⟨rfl, hb5⟩
      have HT := Lib.hid (HT.out.below hb5)
      have HLW := Lib.hid (HLW.out.trans (hb5.mono HLW.out.size))
      clear hb5
      refine ⟨_, rfl, HT.out, ?_⟩
      go_frame
      refine Frm.wh_take 4 25 (.bool false) rfl rfl (by kernel_rfl) (fun _ _ _ h => h) rfl (HT.out) (fun w' hw' => ?_) ?_
      · go_simp
      go_frame
      refine Frm.wh_take 5 26 (.bool false) rfl rfl (by kernel_rfl) (fun _ _ _ h => h) rfl (HT.out) (fun w' hw' => ?_) ?_
      · exact rfl
      go_frame
      refine Frm.wh_take 6 27 (.pointer (some ⟨kb, 1, none⟩)) rfl rfl (by kernel_rfl) (fun _ _ _ h => h) rfl (HT.out) (fun w' hw' => ?_) ?_
      · go_simp
      go_frame
      refine Frm.wh_take 7 28 (.int .i64 G) rfl rfl (by kernel_rfl) (fun _ _ _ h => h) rfl (HT.out) (fun w' hw' => ?_) ?_
      · obtain ⟨q0, q1, q2, q3⟩ := hw'.c
        go_simp
      go_frame
      refine Frm.wh_take 9 30 (.int .i64 i) rfl rfl (by kernel_rfl) (fun _ _ _ h => h) rfl (HT.out) (fun w' hw' => ?_) ?_
      · exact rfl
      go_frame
      refine Frm.wh_call 8 29 100 #[.int .i64 G] rfl rfl (by kernel_rfl) rfl ?_ ?_
      · go_simp
      refine (HPL.out w5).mono ?_
      rintro e w6 ⟨rfl, rfl⟩
      refine ⟨_, rfl, HT.out, ?_⟩
      go_frame
      refine Frm.wh_take 10 31 (.bool false) rfl rfl (by kernel_rfl) (fun _ _ _ h => h) rfl (HT.out) (fun w' hw' => ?_) ?_
      · go_simp
        have hpp := HPP.out
        omega
      go_frame
      refine Frm.wh_take 11 32 (.bool false) rfl rfl (by kernel_rfl) (fun _ _ _ h => h) rfl (HT.out) (fun w' hw' => ?_) ?_
      · go_simp
      go_frame
      refine wpAnyH_done (by kernel_rfl) ?_ _
      obtain ⟨q0, q1, q2, q3⟩ := HT.out.c
      go_wp2_with fail
      go_ret
      exact ⟨rfl, HLW.out⟩
    · have HV : Hid (headIn (rd d) i = 0) := Lib.hid (by rw [HH.out]; simp [hp])
      have HPP : Hid (¬ G % 2 = i) := Lib.hid hp
      rw [HV.out]
      clear HH HV he hp
      generalize G % 2 = r at *
      go_enter Tryz.func95, Tryz.ntmps95
      have hc0 := HB0.out.c0
      go_wp2_with fail
      refine (HRD.out _ HB0.out.dk).mono ?_
      rintro e w1 ⟨A1, c1, z1, rfl, hy1, hb1, hc1, hm1, _⟩
      have HS := Lib.hid (HB0.out.call hb1)
      have HY := Lib.hid hy1
      clear hy1 hb1 hc0
      go_wp2_with fail
      refine (HGT.out w1 w1.heap.size xs.length c1 A1 HY.out (Nat.le_refl _) hc1 hm1).mono ?_
      rintro e w2 ⟨rfl, hb2⟩
      have HS := Lib.hid (HS.out.call hb2)
      clear hb2 HY hc1 hm1
      go_upto_region 3 with fail
      have HT : Hid (Two (w2.alloc (.cells #[.int .i64 m0, .int .i64 G, .int .i64 m2, .int .i64 m3] 158)) w.heap.size w2.heap.size g gen m0 G m2 m3) := Lib.hid ⟨(Below.heap_alloc w2 _ _ (lt_of_heap HS.out.bx)).trans HS.out.bx, heap_alloc_new w2 _⟩
      have HLW := Lib.hid (HS.out.low.alloc HS.out.low.size (.cells #[.int .i64 m0, .int .i64 G, .int .i64 m2, .int .i64 m3] 158))
      generalize w2.alloc (.cells #[.int .i64 m0, .int .i64 G, .int .i64 m2, .int .i64 m3] 158) = w3 at *
      generalize w2.heap.size = kb at *
      have HT : Hid (Two w3.drew w.heap.size kb g gen m0 G m2 m3) := Lib.hid ⟨HT.out.bx, HT.out.mb⟩
      have HLW := Lib.hid HLW.out.drew
      refine Frm.wh_start (fun w' => Two w' w.heap.size kb g gen m0 G m2 m3) (by kernel_rfl) ?_
      refine Frm.wh_take 0 21 (.agg #[.int .i64 m0, .int .i64 G, .int .i64 m2, .int .i64 m3]) rfl rfl (by kernel_rfl) (fun _ _ _ h => h) rfl (HT.out) (fun w' hw' => ?_) ?_
      · obtain ⟨q0, q1, q2, q3⟩ := hw'.c
        go_simp
      go_frame
      refine Frm.wh_take 1 22 (.pointer (some ⟨kb, 1, none⟩)) rfl rfl (by kernel_rfl) (fun _ _ _ h => h) rfl (HT.out) (fun w' hw' => ?_) ?_
      · go_simp
      go_frame
      refine Frm.wh_take 2 23 (.int .i64 G) rfl rfl (by kernel_rfl) (fun _ _ _ h => h) rfl (HT.out) (fun w' hw' => ?_) ?_
      · obtain ⟨q0, q1, q2, q3⟩ := hw'.c
        go_simp
      go_frame
      generalize w3.drew = w4 at *
      refine Frm.wh_call 3 24 102 #[.int .i64 G] rfl rfl (by kernel_rfl) rfl ?_ ?_
      · go_simp
      refine (HHD.out w4).mono ?_
      rintro e w5 ⟨rfl, hb5⟩
      have HT := Lib.hid (HT.out.below hb5)
      have HLW := Lib.hid (HLW.out.trans (hb5.mono HLW.out.size))
      clear hb5
      refine ⟨_, rfl, HT.out, ?_⟩
      go_frame
      refine Frm.wh_take 4 25 (.bool false) rfl rfl (by kernel_rfl) (fun _ _ _ h => h) rfl (HT.out) (fun w' hw' => ?_) ?_
      · go_simp
      go_frame
      refine Frm.wh_take 5 26 (.bool false) rfl rfl (by kernel_rfl) (fun _ _ _ h => h) rfl (HT.out) (fun w' hw' => ?_) ?_
      · exact rfl
      go_frame
      refine Frm.wh_take 6 27 (.pointer (some ⟨kb, 1, none⟩)) rfl rfl (by kernel_rfl) (fun _ _ _ h => h) rfl (HT.out) (fun w' hw' => ?_) ?_
      · go_simp
      go_frame
      refine Frm.wh_take 7 28 (.int .i64 G) rfl rfl (by kernel_rfl) (fun _ _ _ h => h) rfl (HT.out) (fun w' hw' => ?_) ?_
      · obtain ⟨q0, q1, q2, q3⟩ := hw'.c
        go_simp
      go_frame
      refine Frm.wh_take 9 30 (.int .i64 i) rfl rfl (by kernel_rfl) (fun _ _ _ h => h) rfl (HT.out) (fun w' hw' => ?_) ?_
      · exact rfl
      go_frame
      refine Frm.wh_call 8 29 100 #[.int .i64 G] rfl rfl (by kernel_rfl) rfl ?_ ?_
      · go_simp
      refine (HPL.out w5).mono ?_
      rintro e w6 ⟨rfl, rfl⟩
      refine ⟨_, rfl, HT.out, ?_⟩
      go_frame
      refine Frm.wh_take 10 31 (.bool true) rfl rfl (by kernel_rfl) (fun _ _ _ h => h) rfl (HT.out) (fun w' hw' => ?_) ?_
      · go_simp
        have hpp := HPP.out
        omega
      go_frame
      refine Frm.wh_take 11 32 (.bool true) rfl rfl (by kernel_rfl) (fun _ _ _ h => h) rfl (HT.out) (fun w' hw' => ?_) ?_
      · go_simp
      go_frame
      refine wpAnyH_done (by kernel_rfl) ?_ _
      go_wp2_with fail
      go_ret
      exact ⟨rfl, HLW.out⟩
  · have HV : Hid (headIn (rd d) i = 0) := Lib.hid (by rw [HH.out, he]; rfl)
    rw [HV.out]
    clear HH HV he
    have HNE : Hid (¬ (m0 = 1 ∧ m2 = 0 ∧ m3 = 0)) := Lib.hid (fun hh => by obtain ⟨rfl, rfl, rfl⟩ := hh; simp at hne)
    clear hne
    go_enter Tryz.func95, Tryz.ntmps95
    have hc0 := HB0.out.c0
    go_wp2_with fail
    refine (HRD.out _ HB0.out.dk).mono ?_
    rintro e w1 ⟨A1, c1, z1, rfl, hy1, hb1, hc1, hm1, _⟩
    have HS := Lib.hid (HB0.out.call hb1)
    have HY := Lib.hid hy1
    clear hy1 hb1 hc0
    go_wp2_with fail
    refine (HGT.out w1 w1.heap.size xs.length c1 A1 HY.out (Nat.le_refl _) hc1 hm1).mono ?_
    rintro e w2 ⟨rfl, hb2⟩
    have HS := Lib.hid (HS.out.call hb2)
    clear hb2 HY hc1 hm1
    go_upto_region 3 with fail
    have HT : Hid (Two (w2.alloc (.cells #[.int .i64 m0, .int .i64 G, .int .i64 m2, .int .i64 m3] 158)) w.heap.size w2.heap.size g gen m0 G m2 m3) := Lib.hid ⟨(Below.heap_alloc w2 _ _ (lt_of_heap HS.out.bx)).trans HS.out.bx, heap_alloc_new w2 _⟩
    have HLW := Lib.hid (HS.out.low.alloc HS.out.low.size (.cells #[.int .i64 m0, .int .i64 G, .int .i64 m2, .int .i64 m3] 158))
    generalize w2.alloc (.cells #[.int .i64 m0, .int .i64 G, .int .i64 m2, .int .i64 m3] 158) = w3 at *
    generalize w2.heap.size = kb at *
    have HT : Hid (Two w3.drew w.heap.size kb g gen m0 G m2 m3) := Lib.hid ⟨HT.out.bx, HT.out.mb⟩
    have HLW := Lib.hid HLW.out.drew
    refine Frm.wh_start (fun w' => Two w' w.heap.size kb g gen m0 G m2 m3) (by kernel_rfl) ?_
    refine Frm.wh_take 0 21 (.agg #[.int .i64 m0, .int .i64 G, .int .i64 m2, .int .i64 m3]) rfl rfl (by kernel_rfl) (fun _ _ _ h => h) rfl (HT.out) (fun w' hw' => ?_) ?_
    · obtain ⟨q0, q1, q2, q3⟩ := hw'.c
      go_simp
    go_frame
    refine Frm.wh_take 1 22 (.pointer (some ⟨kb, 1, none⟩)) rfl rfl (by kernel_rfl) (fun _ _ _ h => h) rfl (HT.out) (fun w' hw' => ?_) ?_
    · go_simp
    go_frame
    refine Frm.wh_take 2 23 (.int .i64 G) rfl rfl (by kernel_rfl) (fun _ _ _ h => h) rfl (HT.out) (fun w' hw' => ?_) ?_
    · obtain ⟨q0, q1, q2, q3⟩ := hw'.c
      go_simp
    go_frame
    generalize w3.drew = w4 at *
    refine Frm.wh_call 3 24 102 #[.int .i64 G] rfl rfl (by kernel_rfl) rfl ?_ ?_
    · go_simp
    refine (HHD.out w4).mono ?_
    rintro e w5 ⟨rfl, hb5⟩
    have HT := Lib.hid (HT.out.below hb5)
    have HLW := Lib.hid (HLW.out.trans (hb5.mono HLW.out.size))
    clear hb5
    refine ⟨_, rfl, HT.out, ?_⟩
    go_frame
    refine Frm.wh_take 4 25 (.bool true) rfl rfl (by kernel_rfl) (fun _ _ _ h => h) rfl (HT.out) (fun w' hw' => ?_) ?_
    · have hne := HNE.out
      go_simp
      intros
      omega
    go_frame
    refine Frm.wh_take 5 26 (.bool true) rfl rfl (by kernel_rfl) (fun _ _ _ h => h) rfl (HT.out) (fun w' hw' => ?_) ?_
    · exact rfl
    go_frame
    refine Frm.wh_pass 6 27 rfl rfl (by kernel_rfl) (fun _ _ _ h => h) rfl (HT.out) ?_
    go_frame
    refine Frm.wh_pass 7 28 rfl rfl (by kernel_rfl) (fun _ _ _ h => h) rfl (HT.out) ?_
    go_frame
    refine Frm.wh_pass 8 29 rfl rfl (by kernel_rfl) (fun _ _ _ h => h) rfl (HT.out) ?_
    go_frame
    refine Frm.wh_pass 9 30 rfl rfl (by kernel_rfl) (fun _ _ _ h => h) rfl (HT.out) ?_
    go_frame
    refine Frm.wh_pass 10 31 rfl rfl (by kernel_rfl) (fun _ _ _ h => h) rfl (HT.out) ?_
    go_frame
    refine Frm.wh_take 11 32 (.bool true) rfl rfl (by kernel_rfl) (fun _ _ _ h => h) rfl (HT.out) (fun w' hw' => ?_) ?_
    · go_simp
    go_frame
    refine wpAnyH_done (by kernel_rfl) ?_ _
    go_wp2_with fail
    go_ret
    exact ⟨rfl, HLW.out⟩
/-- Is there a head; the greater one behind k sectors. -/
def newB (f : Nat → List UInt8) : Bool := decide (0 < newest f)
def mx (f : Nat → List UInt8) (k : Nat) : Nat := if k = 0 then 0 else if k = 1 then headIn f 0 else newest f
theorem mx_step (f : Nat → List UInt8) (k : Nat) (h : k < 2) : (mx f k < headIn f k → mx f (k + 1) = headIn f k) ∧ (headIn f k ≤ mx f k → mx f (k + 1) = mx f k) := by
  have hk : k = 0 ∨ k = 1 := by omega
  rcases hk with rfl | rfl
  · simp [mx]
  · simp only [mx, newest]
    simp
    omega
structure NR (w0 w' : World) (b2 b4 g gs gm : Nat) (d : Dsk) (G : Nat) : Prop where
  zb : w'.heap[b2]? = some (.cells #[.pointer none, .int .i64 0] 105 (0, 0))
  nb : w'.heap[b4]? = some (.cells #[.pointer (some ⟨g, 0, none⟩), .int .i64 G] 105 (0, 0))
  dk : Dk w' g gs gm d
  low : Below w0.heap.size w0 w'
theorem NR.call {w0 w1 w' : World} {b2 b4 g gs gm : Nat} {d : Dsk} {G : Nat} (h : NR w0 w1 b2 b4 g gs gm d G) (hb : Below w1.heap.size w1 w') : NR w0 w' b2 b4 g gs gm d G :=
  ⟨(hb.block _ (lt_of_heap h.zb)).trans h.zb, (hb.block _ (lt_of_heap h.nb)).trans h.nb, Dk.below h.dk hb, h.low.trans (hb.mono h.low.size)⟩
theorem NR.set {w0 w1 : World} {b2 b4 g gs gm : Nat} {d : Dsk} {G G' : Nat} (h : NR w0 w1 b2 b4 g gs gm d G) (hne : b2 ≠ b4) (h4 : w0.heap.size ≤ b4) (hn : b4 ∉ [g, gs, gm]) : NR w0 ((w1.setCell ⟨b4, 0, none⟩ (.pointer (some ⟨g, 0, none⟩))).setCell ⟨b4, 1, none⟩ (.int .i64 G')) b2 b4 g gs gm d G' := by
  have ht : Turn [b4] w1 ((w1.setCell ⟨b4, 0, none⟩ (.pointer (some ⟨g, 0, none⟩))).setCell ⟨b4, 1, none⟩ (.int .i64 G')) := ((Turn.refl [b4] w1).setCell (.inl (by simp)) _).setCell (.inl (by simp)) _
  simp only [List.mem_cons, List.not_mem_nil, or_false, not_or] at hn
  exact ⟨(ht.block b2 (lt_of_heap h.zb) (by simpa using hne)).trans h.zb, by rw [set_at (set_at h.nb 0 _) 1 _]; rfl, h.dk.turn ht (by simp; omega) (by simp; omega) (by simp; omega), (h.low.setCell (p := ⟨b4, 0, none⟩) h4 _).setCell (p := ⟨b4, 1, none⟩) h4 _⟩
set_option maxHeartbeats 4000000 in
theorem newest_any (w : World) (g gs gm : Nat) (d : Dsk) (h : Dk w g gs gm d) (ho : d.off = false) : Calls Tryz.prog 53 #[ptr g] w (EndsBelow (.tuple #[.agg #[ptr g, .int .i64 (newest (rd d))], .bool (newB (rd d))]) w) := by
  have hlo := Dk.lows h
  have hgl := h.lt
  have h1 : Dk ((w.alloc (.cells #[.pointer none, .int .i64 0] 105)).alloc (.cells #[.pointer (some ⟨g, 0, none⟩), .int .i64 0] 105)) g gs gm d := (h.alloc _).alloc _
  have HN0 : Hid (NR w ((w.alloc (.cells #[.pointer none, .int .i64 0] 105)).alloc (.cells #[.pointer (some ⟨g, 0, none⟩), .int .i64 0] 105)) w.heap.size (w.heap.size + 1) g gs gm d 0) := Lib.hid ⟨(Below.heap_alloc _ _ _ (by simp)).trans (heap_alloc_new w _), by have := heap_alloc_new (w.alloc (.cells #[.pointer none, .int .i64 0] 105)) (.cells #[.pointer (some ⟨g, 0, none⟩), .int .i64 0] 105); rwa [World.size_alloc] at this, h1, (Frm.alloc_below w _).alloc (by simp) _⟩
  have HH := Lib.hid (fun u hu G k => headIn_any u g gs gm d G k hu ho)
  have HMX := Lib.hid (fun k hk => mx_step (rd d) k hk)
  have HM0 : Hid (mx (rd d) 0 = 0) := Lib.hid rfl
  have HM2 : Hid (mx (rd d) 2 = newest (rd d)) := Lib.hid rfl
  have HNB : Hid (newB (rd d) = decide (0 < newest (rd d))) := Lib.hid rfl
  have HNI : Hid (w.heap.size + 1 ∉ [g, gs, gm]) := Lib.hid (fun hm => by have := hlo _ hm; omega)
  generalize newB (rd d) = NB at *
  generalize newest (rd d) = NW at *
  generalize rd d = f at *
  unfold hv at HH
  unfold ptr at *
  clear h ho hlo h1 hgl
  go_enter Tryz.func53, Tryz.ntmps53
  go_wp2_with fail
  generalize (w.alloc (.cells #[.pointer none, .int .i64 0] 105)).alloc (.cells #[.pointer (some ⟨g, 0, none⟩), .int .i64 0] 105) = W at *
  go_loopw [9] (fun i' wr => ∃ k : Nat, k ≤ 2 ∧ i' = .int .i64 k ∧ NR w wr w.heap.size (w.heap.size + 1) g gs gm d (mx f k)) (fun i' _ => 2 - (Go.RowKit.intOf i').toNat)
  case atStart => exact ⟨0, by omega, rfl, by rw [HM0.out]; exact HN0.out⟩
  case round =>
    obtain ⟨k, hk, rfl, hnr⟩ := hrel
    have HN := Lib.hid hnr
    clear hnr
    have hk2 : (k : Int) ≤ 2 := by omega
    by_cases hlt : k < 2
    · have hlt2 : (k : Int) < 2 := by omega
      have hcs : mx f k < headIn f k ∨ headIn f k ≤ mx f k := by omega
      have HS := Lib.hid (HMX.out k hlt)
      have HC := Lib.hid (HH.out wr HN.out.dk (mx f k) k)
      have hn0 : wr.cell? ⟨w.heap.size + 1, 0, none⟩ = some (.pointer (some ⟨g, 0, none⟩)) := cell_at HN.out.nb 0
      have hn1 : wr.cell? ⟨w.heap.size + 1, 1, none⟩ = some (.int .i64 (mx f k)) := cell_at HN.out.nb 1
      generalize headIn f k = X at *
      obtain ⟨Y, hY⟩ : ∃ Y, mx f k = Y := ⟨_, rfl⟩
      rw [hY] at HN HS HC hn1 hcs
      clear hY
      go_wp2_with fail
      refine HC.out.mono ?_
      rintro e w2 ⟨rfl, hb2⟩
      have HN := Lib.hid (HN.out.call hb2)
      clear hn0 hn1 hb2 HC
      have HN := Lib.hid (HN.out.call (Frm.alloc_below w2 (.cells #[.pointer (some ⟨g, 0, none⟩), .int .i64 X] 105)))
      have hX := heap_alloc_new w2 (.cells #[.pointer (some ⟨g, 0, none⟩), .int .i64 X] 105)
      go_upto_region 6 with fail
      generalize w2.alloc (.cells #[.pointer (some ⟨g, 0, none⟩), .int .i64 X] 105) = w3 at *
      have hx0 : w3.cell? ⟨w2.heap.size, 0, none⟩ = some (.pointer (some ⟨g, 0, none⟩)) := cell_at hX 0
      have hx1 : w3.cell? ⟨w2.heap.size, 1, none⟩ = some (.int .i64 X) := cell_at hX 1
      have hn0 : w3.cell? ⟨w.heap.size + 1, 0, none⟩ = some (.pointer (some ⟨g, 0, none⟩)) := cell_at HN.out.nb 0
      have hn1 : w3.cell? ⟨w.heap.size + 1, 1, none⟩ = some (.int .i64 Y) := cell_at HN.out.nb 1
      have hf0 : w3.frozen? ⟨w.heap.size + 1, 0, none⟩ = false := free_at HN.out.nb 0
      have hf1 : w3.frozen? ⟨w.heap.size + 1, 1, none⟩ = false := free_at HN.out.nb 1
      clear hX
      rcases hcs with hc | hc
      · have hc' : (Y : Int) < X := by omega
        go_wp2_with fail
        go_roundw
        case rel =>
          refine ⟨k + 1, by omega, by go_num, ?_⟩
          rw [HS.out.1 hc]
          exact HN.out.set (by omega) (by omega) HNI.out
        case measure => simp [Go.RowKit.intOf]; omega
      · have hc' : (X : Int) ≤ Y := by omega
        go_wp2_with fail
        go_roundw
        case rel =>
          refine ⟨k + 1, by omega, by go_num, ?_⟩
          rw [HS.out.2 hc]
          exact HN.out
        case measure => simp [Go.RowKit.intOf]; omega
    · obtain rfl : k = 2 := by omega
      rw [HM2.out] at HN
      clear hk2 HMX HM0 HM2 HH HN0
      go_wp2_with fail
      have HN := Lib.hid (⟨HN.out.zb, HN.out.nb, HN.out.dk.drewN 1, HN.out.low.drew⟩ : NR w wr.drew w.heap.size (w.heap.size + 1) g gs gm d NW)
      refine Frm.wh_start (fun w' => w'.heap[w.heap.size + 1]? = some (.cells #[.pointer (some ⟨g, 0, none⟩), .int .i64 NW] 105 (0, 0))) (by kernel_rfl) ?_
      generalize wr.drew = u at *
      refine Frm.wh_take 0 24 (.agg #[.pointer (some ⟨g, 0, none⟩), .int .i64 NW]) rfl rfl (by kernel_rfl) (fun _ _ _ h => h) rfl (HN.out.nb) (fun w' hw' => ?_) ?_
      · have h0 := box0 hw'
        have h1 := box1 hw'
        go_simp
      go_frame
      refine Frm.wh_take 1 25 (.pointer (some ⟨w.heap.size + 1, 1, none⟩)) rfl rfl (by kernel_rfl) (fun _ _ _ h => h) rfl (HN.out.nb) (fun w' hw' => ?_) ?_
      · go_simp
      go_frame
      refine Frm.wh_take 2 26 (.int .i64 NW) rfl rfl (by kernel_rfl) (fun _ _ _ h => h) rfl (HN.out.nb) (fun w' hw' => ?_) ?_
      · have h0 := box0 hw'
        have h1 := box1 hw'
        go_simp
      go_frame
      refine Frm.wh_take 3 27 (.bool NB) rfl rfl (by kernel_rfl) (fun _ _ _ h => h) rfl (HN.out.nb) (fun w' hw' => ?_) ?_
      · have hq := HNB.out
        rw [hq]
        go_simp
      go_frame
      have z0 : u.cell? ⟨w.heap.size, 0, none⟩ = some (.pointer none) := cell_at HN.out.zb 0
      have z1 : u.cell? ⟨w.heap.size, 1, none⟩ = some (.int .i64 0) := cell_at HN.out.zb 1
      have f0 : u.frozen? ⟨w.heap.size, 0, none⟩ = false := free_at HN.out.zb 0
      have f1 : u.frozen? ⟨w.heap.size, 1, none⟩ = false := free_at HN.out.zb 1
      refine Frm.wh_store 4 ((u.setCell ⟨w.heap.size, 0, none⟩ (.pointer (some ⟨g, 0, none⟩))).setCell ⟨w.heap.size, 1, none⟩ (.int .i64 NW)) rfl rfl (by kernel_rfl) rfl ?_ ?_ ?_
      · go_simp
      · exact (((Turn.refl [w.heap.size] u).setCell (p := ⟨w.heap.size, 0, none⟩) (.inl (by simp)) _).setCell (p := ⟨w.heap.size, 1, none⟩) (.inl (by simp)) _).block _ (lt_of_heap HN.out.nb) (by simp) |>.trans HN.out.nb
      have HNB4 := Lib.hid ((((Turn.refl [w.heap.size] u).setCell (p := ⟨w.heap.size, 0, none⟩) (.inl (by simp)) (.pointer (some ⟨g, 0, none⟩))).setCell (p := ⟨w.heap.size, 1, none⟩) (.inl (by simp)) (.int .i64 NW)).block _ (lt_of_heap HN.out.nb) (by simp) |>.trans HN.out.nb)
      refine Frm.wh_take 5 3 (.bool NB) rfl rfl (by kernel_rfl) (fun _ _ _ h => h) rfl (HNB4.out) (fun w' hw' => ?_) ?_
      · exact rfl
      go_frame
      refine wpAnyH_done (by kernel_rfl) ?_ _
      have HW := Lib.hid (set_at (set_at HN.out.zb 0 (.pointer (some ⟨g, 0, none⟩))) 1 (.int .i64 NW))
      have HL := Lib.hid ((HN.out.low.setCell (p := ⟨w.heap.size, 0, none⟩) (Nat.le_refl _) (.pointer (some ⟨g, 0, none⟩))).setCell (p := ⟨w.heap.size, 1, none⟩) (Nat.le_refl _) (.int .i64 NW))
      clear z0 z1 f0 f1
      go_wp2_with fail
      have hw := HW.out
      generalize (u.setCell ⟨w.heap.size, 0, none⟩ (.pointer (some ⟨g, 0, none⟩))).setCell ⟨w.heap.size, 1, none⟩ (.int .i64 NW) = u2 at *
      have z0 := cell_at hw 0
      have z1 := cell_at hw 1
      exact bodyPost_ret (v := .tuple #[.agg #[.pointer (some ⟨g, 0, none⟩), .int .i64 NW], .bool NB]) (by simp [results, Tryz.results53, go_sem, z0, z1]) rfl ⟨rfl, HL.out⟩
end Go.Proofs.YtdjhlhellkajfaaGreat.Jou
