/-
  nodes: the sequence of all nodes of functions: what it gives. Conditions: the trees lie in memory.
-/
import Derived.Test.YtmihlmlojmdhjaaGreatDoorQ09
namespace Go.Proofs.YtmihlmlojmdhjaaGreatDoor.Tre
open Go.RowKit
set_option maxRecDepth 100000
attribute [local go_sem] Oper.semAt_some
theorem nil_eq : Value.agg #[.int .i64 0, .int .i64 0, .string ⟨#[]⟩, .string ⟨#[]⟩, .slice none 0 0] = exV nilX := rfl
/-- How far the functions ahead reach. -/
def fpos (has : St → Bool) (x : List Fn) (j : Nat) : Nat := ((x.take j).flatMap (nodesF has)).length
/-- How far the statements ahead reach. -/
def spos (has : St → Bool) (x : List St) (j : Nat) : Nat := ((x.take j).flatMap (nodesS has)).length
theorem node_f {has : St → Bool} {x : List Fn} {j : Nat} {f : Fn} (h : x[j]? = some f) : (nodes has x)[fpos has x j]? = some nilX := by
  have := flatMap_at (nodesF has) x j 0 f nilX h rfl
  rwa [Nat.add_zero] at this
theorem node_s {has : St → Bool} {x : List Fn} {j k : Nat} {f : Fn} {s : St} (h : x[j]? = some f) (hs : (flatB f.b)[k]? = some s) : (nodes has x)[fpos has x j + 1 + spos has (flatB f.b) k]? = some nilX := by
  have h1 := flatMap_at (nodesS has) (flatB f.b) k 0 s nilX hs rfl
  have h2 := flatMap_at (nodesF has) x j (spos has (flatB f.b) k + 1) f nilX h (by unfold nodesF; rw [List.getElem?_cons_succ]; rwa [Nat.add_zero] at h1)
  rwa [show ((x.take j).flatMap (nodesF has)).length + (spos has (flatB f.b) k + 1) = fpos has x j + 1 + spos has (flatB f.b) k by unfold fpos; omega] at h2
theorem node_e {has : St → Bool} {x : List Fn} {j k i : Nat} {f : Fn} {s : St} {y : Ex} (h : x[j]? = some f) (hs : (flatB f.b)[k]? = some s) (hh : has s = true) (hy : (flat s.e)[i]? = some y) : (nodes has x)[fpos has x j + 1 + spos has (flatB f.b) k + 1 + i]? = some y := by
  have h1 := flatMap_at (nodesS has) (flatB f.b) k (i + 1) s y hs (by unfold nodesS; rw [List.getElem?_cons_succ, if_pos hh]; exact hy)
  have h2 := flatMap_at (nodesF has) x j (spos has (flatB f.b) k + (i + 1) + 1) f y h (by unfold nodesF; rw [List.getElem?_cons_succ]; exact h1)
  rwa [show ((x.take j).flatMap (nodesF has)).length + (spos has (flatB f.b) k + (i + 1) + 1) = fpos has x j + 1 + spos has (flatB f.b) k + 1 + i by unfold fpos; omega] at h2
theorem fpos_succ {has : St → Bool} {x : List Fn} {j : Nat} {f : Fn} (h : x[j]? = some f) : fpos has x (j + 1) = fpos has x j + 1 + spos has (flatB f.b) (flatB f.b).length := by
  unfold fpos spos
  rw [flatMap_take (nodesF has) x j f h, List.take_length]
  simp [nodesF]
  omega
theorem spos_yes {has : St → Bool} {x : List St} {k : Nat} {s : St} (hs : x[k]? = some s) (hh : has s = true) : spos has x (k + 1) = spos has x k + 1 + size s.e := by
  unfold spos size
  rw [flatMap_take (nodesS has) x k s hs]
  simp [nodesS, hh]
  omega
theorem spos_no {has : St → Bool} {x : List St} {k : Nat} {s : St} (hs : x[k]? = some s) (hh : has s = false) : spos has x (k + 1) = spos has x k + 1 := by
  unfold spos
  rw [flatMap_take (nodesS has) x k s hs]
  simp [nodesS, hh]
set_option maxHeartbeats 4000000 in
theorem nodes1_given (w0 : World) (x : List Fn) (A : Option Addr) (c : Nat) (hr : Row 4 fnC w0 A x) (hl : x.length ≤ most) (hin : ∀ f ∈ x, FnIn w0 f) (b1 b2 : Nat) (w : World) (hL : Low w0 w)
    (hb1 : w.heap[b1]? = some (.cells #[.slice A x.length c] 23 (0, 0))) (hb2 : w.heap[b2]? = some (.cells #[.func (.func 28) #[] #[]] 75 (0, 0))) (hw : w0.heap.size ≤ w.heap.size) :
    Gives w0.heap.size [b2] 51 #[.pointer (some ⟨b1, 0, none⟩), .pointer (some ⟨b2, 0, none⟩)] ((nodes givenB x).map exV) w := fun m l S hi J Jx W hB h00 hhi hcap hJ hJx hY h0 => by
  have c1 := cell_at ((Below.heap_alloc W (.cells #[.func (.yield l) #[] #[]] 60) b1 (by have := lt_of_heap hb1; have := hB.size; omega)).trans ((hB.block b1 (lt_of_heap hb1)).trans hb1)) 0
  simp only [List.getElem?_toArray, List.getElem?_cons_zero] at c1
  have HB0 : Hid (Base w0 W.heap.size l b2 28 (W.alloc (.cells #[.func (.yield l) #[] #[]] 60))) := Lib.hid
    ⟨(hL.later hB).later (ball_new _ _ _), by simp, by have := hB.size; omega, by have := lt_of_heap hb2; have := hB.size; omega, new_at _ _ _, (Below.heap_alloc _ _ _ (by have := lt_of_heap hb2; have := hB.size; omega)).trans ((hB.block b2 (lt_of_heap hb2)).trans hb2)⟩
  have HJ0 : Hid (J 0 (W.alloc (.cells #[.func (.yield l) #[] #[]] 60))) := Lib.hid (hJ.alloc _ h0)
  have HCAP : Hid (¬ S b2) := Lib.hid (hcap b2 (by simp))
  have H00 := Lib.hid h00
  have HHI := Lib.hid hhi
  have HJ := Lib.hid hJ
  have HJX := Lib.hid hJx
  have HY : Hid (∀ m k v W1, (nodes givenB x)[k]? = some v → J k W1 → YieldAt Fence.wide m Tryz.prog l #[exV v] W1 (Goes S W.heap.size J Jx (k + 1) W1)) := Lib.hid (fun m k v W1 hv hj => hY m k (exV v) W1 (map_at hv) hj)
  have HR := Lib.hid hr
  have HIN := Lib.hid hin
  rw [List.length_map]
  unfold most at hl
  clear hB hb1 hb2 hL hw hcap h00 hhi hJ hJx hY hr hin h0
  obtain ⟨n, hn⟩ : ∃ n, x.length = n := ⟨_, rfl⟩
  rw [hn] at hl c1
  have HN := Lib.hid hn
  clear hn
  refine callsIn_of_wp_marks Tryz.func51 rfl trivial ?_ rfl
  simp only [Tryz.ntmps51, List.size_toArray, List.length_cons, List.length_nil, Nat.reduceAdd, Nat.reduceSub, Array.replicate_succ, Array.replicate_zero, List.push_toArray, List.append_toArray, List.nil_append, List.cons_append]
  gi_wp2
  refine wpIn_loop (fun a' w' => ∃ (j : Nat) (ds : List Nat) (u5 u6 u7 u11 u12 u13 u14 u15 u16 u17 u18 u19 u20 u21 u22 u23 u24 u25 u26 u27 u28 u29 u30 u31 u32 u33 u34 u35 u36 u37 u38 : Value), j ≤ n ∧ a' = { tmps := #[.func (.yield l) #[] #[], .pointer (some ⟨b1, 0, none⟩), .pointer (some ⟨b2, 0, none⟩), .pointer (some ⟨W.heap.size, 0, none⟩), undef, u5, u6, u7, .slice A n c, .int .i64 n, .int .i64 j, u11, u12, u13, u14, u15, u16, u17, u18, u19, u20, u21, u22, u23, u24, u25, u26, u27, u28, u29, u30, u31, u32, u33, u34, u35, u36, u37, u38], defers := ds.map mark } ∧ Hid (J (fpos givenB x j) w' ∧ Base w0 W.heap.size l b2 28 w' ∧ Marks ds w' ∧ ∀ D ∈ ds, W.heap.size ≤ D)) (fun a' _ => n - (intOf (a'.tmps.getD 10 undef)).toNat) ⟨0, [], undef, undef, undef, undef, undef, undef, undef, undef, undef, undef, undef, undef, undef, undef, undef, undef, undef, undef, undef, undef, undef, undef, undef, undef, undef, undef, undef, undef, undef, undef, undef, Nat.zero_le _, rfl, Lib.hid ⟨HJ0.out, HB0.out, Marks.nil _, fun D h => by cases h⟩⟩ ?_
  clear HJ0 HB0 c1
  rintro a' wr ⟨j, ds, u5, u6, u7, u11, u12, u13, u14, u15, u16, u17, u18, u19, u20, u21, u22, u23, u24, u25, u26, u27, u28, u29, u30, u31, u32, u33, u34, u35, u36, u37, u38, hj, rfl, hI⟩
  by_cases hlt : j < n
  · obtain ⟨f, hf⟩ : ∃ f, x[j]? = some f := ⟨_, List.getElem?_eq_getElem (by rw [HN.out]; exact hlt)⟩
    obtain ⟨bf, of, rfl, _, hcf⟩ := HR.out.low hI.out.2.1.low hf
    obtain ⟨p0, p1, p2, p3⟩ := fnC_at hcf
    have HF := Lib.hid hf
    have HFI := Lib.hid (HIN.out f (List.mem_of_getElem? hf))
    have hB1 := (ball_new wr #[.string f.s, .slice f.pa f.p.length f.pc, .int .u8 f.r, .slice f.ba f.b.length f.bc] 36)
    have HB1 := Lib.hid (hI.out.2.1.below hB1)
    have HM1 := Lib.hid (hI.out.2.2.1.below hB1)
    have HDS := Lib.hid hI.out.2.2.2
    have HNEW := Lib.hid (new_at wr #[.string f.s, .slice f.pa f.p.length f.pc, .int .u8 f.r, .slice f.ba f.b.length f.bc] 36)
    have HSZ : Hid (W.heap.size < wr.heap.size) := Lib.hid hI.out.2.1.sz
    obtain ⟨fn, tmps, assign, body, hy, hR⟩ := HY.out (m - 1) (fpos givenB x j) nilX (wr.alloc (.cells #[.string f.s, .slice f.pa f.p.length f.pc, .int .u8 f.r, .slice f.ba f.b.length f.bc] 36)) (node_f hf) (HJ.out.alloc _ hI.out.1)
    rw [← nil_eq] at hy
    have HRY := Lib.hid hR
    have z0 := cell_at HB1.out.box 0
    simp only [List.getElem?_toArray, List.getElem?_cons_zero] at z0
    clear hcf hf hB1 hR hI
    gi_wp2
    refine ⟨(fun h => by cases h), ?_⟩
    refine HRY.out.mono ?_
    rintro e' W3 (⟨rfl, hJ3, hk3⟩ | ⟨rfl, hx3, hk3⟩)
    · have HK3 := Lib.hid hk3
      have HB3 := Lib.hid (HB1.out.keep hk3 H00.out HHI.out HCAP.out)
      have HM3 := Lib.hid (HM1.out.keep hk3 HDS.out)
      have z3 := cell_at (hk3.cell (fun hs => by have := (H00.out _ hs).2; have := HHI.out; have := HSZ.out; omega) HNEW.out) 3
      simp only [List.getElem?_toArray, List.getElem?_cons_succ, List.getElem?_cons_zero] at z3
      have HJ3 := Lib.hid hJ3
      clear hk3 hJ3 z0 p0 p1 p2 p3
      gi_wp2
      refine ⟨trivial, (fun h => by cases h), ?_⟩
      refine (statements_any Fence.wide _ trivial rfl f.ba f.b.length f.bc W3).mono ?_
      rintro e4 w4 ⟨rfl, rfl⟩
      gi_wp2
      obtain ⟨W4, hW4⟩ : ∃ W4, W3.alloc (.cells #[.slice f.ba f.b.length f.bc] 34) = W4 := ⟨_, rfl⟩
      have hb4 : Below W3.heap.size W3 W4 := by rw [← hW4]; exact ball_new _ _ _
      have HB4 := Lib.hid (HB3.out.below hb4)
      have HM4 := Lib.hid (HM3.out.below hb4)
      have HJ4 : Hid (J (fpos givenB x j + 1) W4) := Lib.hid (by rw [← hW4]; exact HJ.out.alloc _ HJ3.out)
      have HN4 : Hid (W4.heap[W3.heap.size]? = some (.cells #[.slice f.ba f.b.length f.bc] 34 (0, 0))) := Lib.hid (by rw [← hW4]; exact new_at _ _ _)
      have HW4 : Hid (W.heap.size < W4.heap.size) := Lib.hid HB4.out.sz
      rw [hW4]
      clear hW4 hb4 HB3 HM3 HJ3 z3 HK3
      refine wp_over (c0 := w0.heap.size) (caps := []) (S := S) (hi := hi) (vals := (flatB f.b).map stV) (w0 := W4) (gf := 97) (lb := #[.pointer (some ⟨W3.heap.size, 0, none⟩)]) rfl (enters_of Tryz.func97 (by kernel_rfl) rfl)
        (statements_gives w0 f.b f.ba f.bc HFI.out.b HFI.out.blen HFI.out.sts W3.heap.size W4 HB4.out.low HN4.out) (Below.refl _ _) rfl H00.out (by have := HHI.out; have := HW4.out; omega) (fun b hb => by cases hb)
        (I := fun k W' => J (fpos givenB x j + 1 + spos givenB (flatB f.b) k) W' ∧ Base w0 W.heap.size l b2 28 W' ∧ Marks ds W' ∧ W4.heap.size ≤ W'.heap.size)
        (Ix := fun c W' => c = .ret ∧ Jx W' ∧ Marks ds W')
        (A := fun k a' W' => ∃ s Bx, (flatB f.b)[k]? = some s ∧ a' = { tmps := #[.func (.yield l) #[] #[], .pointer (some ⟨b1, 0, none⟩), .pointer (some ⟨b2, 0, none⟩), .pointer (some ⟨W.heap.size, 0, none⟩), undef, .pointer (some ⟨wr.heap.size, 0, none⟩), .pointer (some ⟨Bx, 0, none⟩), u7, .slice (some ⟨bf, of, none⟩) n c, .int .i64 n, .int .i64 j, .bool true, .pointer (some ⟨bf, of + j * 4, none⟩), .agg #[.string f.s, .slice f.pa f.p.length f.pc, .int .u8 f.r, .slice f.ba f.b.length f.bc], .func (.yield l) #[] #[], .agg #[.int .i64 0, .int .i64 0, .string ⟨#[]⟩, .string ⟨#[]⟩, .slice none 0 0], .bool true, .bool false, .pointer (some ⟨wr.heap.size, 3, none⟩), .slice f.ba f.b.length f.bc, .func (.func 97) #[] #[.pointer (some ⟨W3.heap.size, 0, none⟩)], .agg #[.int .i64 s.op, .string s.s, .int .i64 s.e.op, .int .i64 s.e.n, .string s.e.s, .string s.e.q, .slice s.e.a s.e.x.length s.e.c, .slice s.a s.b.length s.c, .slice s.a2 s.b2.length s.c2], u22, u23, u24, u25, u26, u27, u28, u29, u30, u31, u32, u33, u34, u35, u36, u37, u38], defers := [] } ∧ W'.heap[Bx]? = some (.cells #[.int .i64 s.op, .string s.s, .int .i64 s.e.op, .int .i64 s.e.n, .string s.e.s, .string s.e.q, .slice s.e.a s.e.x.length s.e.c, .slice s.a s.b.length s.c, .slice s.a2 s.b2.length s.c2] 47 (0, 0)) ∧ W4.heap.size ≤ Bx ∧
          J (fpos givenB x j + 1 + spos givenB (flatB f.b) k) W' ∧ Base w0 W.heap.size l b2 28 W' ∧ Marks ds W' ∧ W4.heap.size ≤ W'.heap.size)
        ?ownI ?ownX ?ownA ?start ?assign ?body ?done ?stop
      case ownI =>
        rintro k X Y row ⟨h1, h2, h3, h4⟩ hg hr
        exact ⟨HJ.out _ X Y row h1 hg (fun r e => by have := hr r e; have := HW4.out; omega), h2.grown hg (fun r e => by have := hr r e; have := HW4.out; omega), h3.grown hg hr HM4.out.lt, Nat.le_trans h4 hg.size⟩
      case ownX =>
        rintro c' k X Y row ⟨h1, h2, h3⟩ hg hr
        exact ⟨h1, HJX.out () X Y row h2 hg (fun r e => by have := hr r e; have := HW4.out; omega), h3.grown hg hr HM4.out.lt⟩
      case ownA =>
        rintro k a' _ X Y row ⟨s, Bx, q1, q2, q3, q4, h1, h2, h3, h4⟩ hg hr
        exact ⟨s, Bx, q1, q2, cells_grown hg (fun r e => (hr r e).2) q3, q4, HJ.out _ X Y row h1 hg (fun r e => by have := (hr r e).1; have := HW4.out; omega), h2.grown hg (fun r e => by have := (hr r e).1; have := HW4.out; omega), h3.grown hg (fun r e => (hr r e).1) HM4.out.lt, Nat.le_trans h4 hg.size⟩
      case start => exact ⟨HJ4.out, HB4.out, HM4.out, Nat.le_refl _⟩
      case assign =>
        rintro l2 k v m2 W5 hv ⟨h1, h2, h3, h4⟩
        obtain ⟨s, hs, rfl⟩ : ∃ s, (flatB f.b)[k]? = some s ∧ stV s = v := by simpa using hv
        have G1 := Lib.hid (HJ.out.alloc (.cells #[.int .i64 s.op, .string s.s, .int .i64 s.e.op, .int .i64 s.e.n, .string s.e.s, .string s.e.q, .slice s.e.a s.e.x.length s.e.c, .slice s.a s.b.length s.c, .slice s.a2 s.b2.length s.c2] 47) h1)
        have G2 := Lib.hid (h2.below (ball_new W5 #[.int .i64 s.op, .string s.s, .int .i64 s.e.op, .int .i64 s.e.n, .string s.e.s, .string s.e.q, .slice s.e.a s.e.x.length s.e.c, .slice s.a s.b.length s.c, .slice s.a2 s.b2.length s.c2] 47))
        have G3 := Lib.hid (h3.below (ball_new W5 #[.int .i64 s.op, .string s.s, .int .i64 s.e.op, .int .i64 s.e.n, .string s.e.s, .string s.e.q, .slice s.e.a s.e.x.length s.e.c, .slice s.a s.b.length s.c, .slice s.a2 s.b2.length s.c2] 47))
        have G4 := Lib.hid h4
        have G5 := Lib.hid hs
        have G6 := Lib.hid (new_at W5 #[.int .i64 s.op, .string s.s, .int .i64 s.e.op, .int .i64 s.e.n, .string s.e.s, .string s.e.q, .slice s.e.a s.e.x.length s.e.c, .slice s.a s.b.length s.c, .slice s.a2 s.b2.length s.c2] 47)
        have G7 : Hid (Keep S W4.heap.size W5 (W5.alloc (.cells #[.int .i64 s.op, .string s.s, .int .i64 s.e.op, .int .i64 s.e.n, .string s.e.s, .string s.e.q, .slice s.e.a s.e.x.length s.e.c, .slice s.a s.b.length s.c, .slice s.a2 s.b2.length s.c2] 47))) := Lib.hid (Keep.alloc _)
        rw [stV_eq]
        clear h1 h2 h3 h4 hv hs
        gi_wp2
        exact ⟨G7.out, s, _, G5.out, rfl, G6.out, G4.out, G1.out, G2.out, G3.out, Nat.le_trans G4.out (by simp)⟩
      case body =>
        rintro l2 k v m2 a' W5 hl2 ⟨q2, hq2⟩ _ ⟨s, Bx, hs, rfl, hbx, hBx, h1, h2, h3, h4⟩
        have HS := Lib.hid hs
        have HBX := Lib.hid hbx
        have HSI := Lib.hid (sts_mem HFI.out.sts (List.mem_of_getElem? hs))
        have HLE : Hid (s.e.x.length ≤ most) := Lib.hid HSI.out.e.nd.len
        have HB5 := Lib.hid h2
        have HM5 := Lib.hid h3
        have HW5 := Lib.hid h4
        have HBXW : Hid (¬ S Bx) := Lib.hid (fun hs => by have := (H00.out _ hs).2; have := HHI.out; have := HW4.out; omega)
        have HL2 : Hid (W4.heap.size ≤ l2) := Lib.hid hl2
        have HQ2 := Lib.hid hq2
        obtain ⟨fn, tmps, assign, body, hy, hR⟩ := HY.out (m2 - 1) (fpos givenB x j + 1 + spos givenB (flatB f.b) k) nilX W5 (node_s HF.out hs) h1
        rw [← nil_eq] at hy
        have HRY := Lib.hid hR
        have z0 := cell_at h2.box 0
        simp only [List.getElem?_toArray, List.getElem?_cons_zero] at z0
        clear hs hbx hBx h1 h2 h3 h4 hR hl2 hq2
        gi_wp2
        refine ⟨(fun h => by cases h), ?_⟩
        refine RoundIn.mono (F := Fence.wide.inRound l2) HRY.out ?_
        rintro e6 W6 (⟨rfl, hJ6, hk6⟩ | ⟨rfl, hx6, hk6⟩)
        · have HK6 : Hid (Keep S W4.heap.size W5 W6) := Lib.hid (hk6.more (fun _ h => h) (by have := HW4.out; omega))
          have HB6 := Lib.hid (HB5.out.keep hk6 H00.out HHI.out HCAP.out)
          have HM6 := Lib.hid (HM5.out.keep hk6 HDS.out)
          have HBX6 := Lib.hid (hk6.cell HBXW.out HBX.out)
          have HJ6 := Lib.hid hJ6
          have y0 := cell_at HB6.out.has 0
          have ⟨x0, x1, x2, x3, x4, x5, x6, x7, x8⟩ := nine_at HBX6.out
          simp only [List.getElem?_toArray, List.getElem?_cons_zero] at y0
          have CH := Lib.hid (CallsIn.inRound l2 (callsIn_wide (n := m2 - 1) |>.2 (given_any s W6 HLE.out)))
          rw [stV_eq] at CH
          clear hJ6 hk6 z0
          gi_wp2
          refine ⟨trivial, (fun h => by cases h), ?_⟩
          refine CH.out.mono ?_
          rintro e7 W7 ⟨rfl, hb7⟩
          have HK7 : Hid (Keep S W4.heap.size W5 W7) := Lib.hid (HK6.out.trans (Keep.below hb7))
          have HB7 := Lib.hid (HB6.out.below hb7)
          have HM7 := Lib.hid (HM6.out.below hb7)
          have HJ7 : Hid (J (fpos givenB x j + 1 + spos givenB (flatB f.b) k + 1) W7) := Lib.hid (HJ.out.below HJ6.out hb7)
          have HW7 : Hid (W6.heap.size ≤ W7.heap.size) := Lib.hid hb7.size
          have HBX7 := Lib.hid ((hb7.block _ (lt_of_heap HBX6.out)).trans HBX6.out)
          clear x0 x1 x2 x3 x4 x5 x6 x7 x8 y0 CH hb7
          obtain ⟨t, ht⟩ : ∃ t, givenB s = t := ⟨_, rfl⟩
          rw [ht]
          have HT := Lib.hid ht
          clear ht
          rcases Bool.eq_false_or_eq_true t with h9 | h9 <;> subst h9
          · have ⟨x0, x1, x2, x3, x4, x5, x6, x7, x8⟩ := nine_at HBX7.out
            gi_wp2
            refine ⟨trivial, (fun h => by cases h), ?_⟩
            have CP := (CallsIn.inRound l2 (parts_any Fence.wide (m2 - 1) trivial rfl s.e W7))
            rw [exV_eq] at CP
            refine CP.mono ?_
            rintro e8 w8 ⟨rfl, rfl⟩
            gi_wp2
            obtain ⟨W8, hW8⟩ : ∃ W8, W7.alloc (.cells #[.int .i64 s.e.op, .int .i64 s.e.n, .string s.e.s, .string s.e.q, .slice s.e.a s.e.x.length s.e.c] 42) = W8 := ⟨_, rfl⟩
            have hb8 : Below W7.heap.size W7 W8 := by rw [← hW8]; exact ball_new _ _ _
            have HB8 := Lib.hid (HB7.out.below hb8)
            have HM8 := Lib.hid (HM7.out.below hb8)
            have HJ8 : Hid (J (fpos givenB x j + 1 + spos givenB (flatB f.b) k + 1) W8) := Lib.hid (HJ.out.below HJ7.out hb8)
            have HN8 : Hid (W8.heap[W7.heap.size]? = some (.cells #[.int .i64 s.e.op, .int .i64 s.e.n, .string s.e.s, .string s.e.q, .slice s.e.a s.e.x.length s.e.c] 42 (0, 0))) := Lib.hid (by rw [← hW8]; exact new_at _ _ _)
            have HK8 : Hid (Keep S W4.heap.size W5 W8) := Lib.hid (HK7.out.trans (Keep.below hb8))
            have HQ8 : Hid (W8.heap[l2]? = some (.loop q2)) := Lib.hid (HK8.out.rest l2 _ HL2.out HQ2.out rfl)
            have HW8 : Hid (W.heap.size < W8.heap.size ∧ W4.heap.size ≤ W8.heap.size ∧ W5.heap.size ≤ W8.heap.size) := Lib.hid ⟨HB8.out.sz, Nat.le_trans HW5.out HK8.out.size, HK8.out.size⟩
            have HMT : Hid (∀ D ∈ ds, D < W8.heap.size) := Lib.hid HM8.out.lt
            rw [hW8]
            clear hW8 hb8 x0 x1 x2 x3 x4 x5 x6 x7 x8
            refine wp_over_in (l0 := l2) (q0 := q2) HQ8.out (c0 := w0.heap.size) (caps := []) (S := S) (hi := hi) (vals := (flat s.e).map exV) (w0 := W8) (gf := 99) (lb := #[.pointer (some ⟨W7.heap.size, 0, none⟩)]) rfl (enters_of Tryz.func99 (by kernel_rfl) rfl)
              (parts_gives w0 s.e HSI.out.e W7.heap.size W8 HB8.out.low HN8.out) (Below.refl _ _) rfl H00.out (by have := HHI.out; have := HW8.out; omega) (fun b hb => by cases hb)
              (I := fun i W' => J (fpos givenB x j + 1 + spos givenB (flatB f.b) k + 1 + i) W' ∧ Base w0 W.heap.size l b2 28 W' ∧ Marks ds W' ∧ Keep S W4.heap.size W5 W' ∧ W8.heap.size ≤ W'.heap.size)
              (Ix := fun c W' => c = .ret ∧ Jx W' ∧ Marks ds W' ∧ Keep S W4.heap.size W5 W')
              (A := fun i a' W' => ∃ y By, (flat s.e)[i]? = some y ∧ a' = { tmps := #[.func (.yield l) #[] #[], .pointer (some ⟨b1, 0, none⟩), .pointer (some ⟨b2, 0, none⟩), .pointer (some ⟨W.heap.size, 0, none⟩), undef, .pointer (some ⟨wr.heap.size, 0, none⟩), .pointer (some ⟨Bx, 0, none⟩), .pointer (some ⟨By, 0, none⟩), .slice (some ⟨bf, of, none⟩) n c, .int .i64 n, .int .i64 j, .bool true, .pointer (some ⟨bf, of + j * 4, none⟩), .agg #[.string f.s, .slice f.pa f.p.length f.pc, .int .u8 f.r, .slice f.ba f.b.length f.bc], .func (.yield l) #[] #[], .agg #[.int .i64 0, .int .i64 0, .string ⟨#[]⟩, .string ⟨#[]⟩, .slice none 0 0], .bool true, .bool false, .pointer (some ⟨wr.heap.size, 3, none⟩), .slice f.ba f.b.length f.bc, .func (.func 97) #[] #[.pointer (some ⟨W3.heap.size, 0, none⟩)], .agg #[.int .i64 s.op, .string s.s, .int .i64 s.e.op, .int .i64 s.e.n, .string s.e.s, .string s.e.q, .slice s.e.a s.e.x.length s.e.c, .slice s.a s.b.length s.c, .slice s.a2 s.b2.length s.c2], .func (.yield l) #[] #[], .agg #[.int .i64 0, .int .i64 0, .string ⟨#[]⟩, .string ⟨#[]⟩, .slice none 0 0], .bool true, .bool false, .func (.func 28) #[] #[], .agg #[.int .i64 s.op, .string s.s, .int .i64 s.e.op, .int .i64 s.e.n, .string s.e.s, .string s.e.q, .slice s.e.a s.e.x.length s.e.c, .slice s.a s.b.length s.c, .slice s.a2 s.b2.length s.c2], .bool true, .bool false, .pointer (some ⟨Bx, 2, none⟩), .agg #[.int .i64 s.e.op, .int .i64 s.e.n, .string s.e.s, .string s.e.q, .slice s.e.a s.e.x.length s.e.c], .func (.func 99) #[] #[.pointer (some ⟨W7.heap.size, 0, none⟩)], .agg #[.int .i64 y.op, .int .i64 y.n, .string y.s, .string y.q, .slice y.a y.x.length y.c], u34, u35, u36, u37, u38], defers := [] } ∧ W'.heap[By]? = some (.cells #[.int .i64 y.op, .int .i64 y.n, .string y.s, .string y.q, .slice y.a y.x.length y.c] 42 (0, 0)) ∧ W8.heap.size ≤ By ∧
                J (fpos givenB x j + 1 + spos givenB (flatB f.b) k + 1 + i) W' ∧ Base w0 W.heap.size l b2 28 W' ∧ Marks ds W' ∧ Keep S W4.heap.size W5 W' ∧ W8.heap.size ≤ W'.heap.size)
              ?ownI2 ?ownX2 ?ownA2 ?start2 ?assign2 ?body2 ?done2 ?stop2
            case ownI2 =>
              rintro i X Y row ⟨g1, g2, g3, g4, g5⟩ hg hr
              exact ⟨HJ.out _ X Y row g1 hg (fun r e => by have := hr r e; have := HW8.out; omega), g2.grown hg (fun r e => by have := hr r e; have := HW8.out; omega), g3.grown hg hr HMT.out, g4.grow hg hr HW8.out.2.2, Nat.le_trans g5 hg.size⟩
            case ownX2 =>
              rintro c' i X Y row ⟨g1, g2, g3, g4⟩ hg hr
              exact ⟨g1, HJX.out () X Y row g2 hg (fun r e => by have := hr r e; have := HW8.out; omega), g3.grown hg hr HMT.out, g4.grow hg hr HW8.out.2.2⟩
            case ownA2 =>
              rintro i a' _ X Y row ⟨y, By, q1, q2, q3, q4, g1, g2, g3, g4, g5⟩ hg hr
              exact ⟨y, By, q1, q2, cells_grown hg (fun r e => (hr r e).2) q3, q4, HJ.out _ X Y row g1 hg (fun r e => by have := (hr r e).1; have := HW8.out; omega), g2.grown hg (fun r e => by have := (hr r e).1; have := HW8.out; omega), g3.grown hg (fun r e => (hr r e).1) HMT.out, g4.grow hg (fun r e => (hr r e).1) HW8.out.2.2, Nat.le_trans g5 hg.size⟩
            case start2 => exact ⟨HJ8.out, HB8.out, HM8.out, HK8.out, Nat.le_refl _⟩
            case assign2 =>
              rintro l3 i v m3 W9 hv ⟨g1, g2, g3, g4, g5⟩
              obtain ⟨y, hy9, rfl⟩ : ∃ y, (flat s.e)[i]? = some y ∧ exV y = v := by simpa using hv
              have G1 := Lib.hid (HJ.out.alloc (.cells #[.int .i64 y.op, .int .i64 y.n, .string y.s, .string y.q, .slice y.a y.x.length y.c] 42) g1)
              have G2 := Lib.hid (g2.below (ball_new W9 #[.int .i64 y.op, .int .i64 y.n, .string y.s, .string y.q, .slice y.a y.x.length y.c] 42))
              have G3 := Lib.hid (g3.below (ball_new W9 #[.int .i64 y.op, .int .i64 y.n, .string y.s, .string y.q, .slice y.a y.x.length y.c] 42))
              have G4 := Lib.hid (g4.trans (Keep.alloc (.cells #[.int .i64 y.op, .int .i64 y.n, .string y.s, .string y.q, .slice y.a y.x.length y.c] 42)))
              have G5 := Lib.hid hy9
              have G6 := Lib.hid (new_at W9 #[.int .i64 y.op, .int .i64 y.n, .string y.s, .string y.q, .slice y.a y.x.length y.c] 42)
              have G7 : Hid (Keep S W8.heap.size W9 (W9.alloc (.cells #[.int .i64 y.op, .int .i64 y.n, .string y.s, .string y.q, .slice y.a y.x.length y.c] 42))) := Lib.hid (Keep.alloc _)
              have G8 := Lib.hid g5
              rw [exV_eq]
              clear g1 g2 g3 g4 g5 hv hy9
              gi_wp2
              exact ⟨G7.out, y, _, G5.out, rfl, G6.out, G8.out, G1.out, G2.out, G3.out, G4.out, Nat.le_trans G8.out (by simp)⟩
            case body2 =>
              rintro l3 i v m3 a' W9 _ _ _ ⟨y, By, hy9, rfl, hby, hBy, g1, g2, g3, g4, g5⟩
              obtain ⟨fn, tmps, assign, body, hy, hR⟩ := HY.out (m3 - 1) (fpos givenB x j + 1 + spos givenB (flatB f.b) k + 1 + i) y W9 (node_e HF.out HS.out HT.out hy9) g1
              rw [exV_eq] at hy
              have HRY := Lib.hid hR
              have z0 := cell_at g2.box 0
              simp only [List.getElem?_toArray, List.getElem?_cons_zero] at z0
              have ⟨x0, x1, x2, x3, x4⟩ := five_at hby
              have G2 := Lib.hid g2
              have G3 := Lib.hid g3
              have G4 := Lib.hid g4
              have G5 := Lib.hid g5
              clear hy9 hby hBy g1 g2 g3 g4 g5 hR
              gi_wp2
              refine ⟨(fun h => by cases h), ?_⟩
              refine RoundIn.mono (F := Fence.wide.inRound l3) HRY.out ?_
              rintro e6 W10 (⟨rfl, hJ10, hk10⟩ | ⟨rfl, hx10, hk10⟩)
              · have K1 : Hid (Keep S W8.heap.size W9 W10) := Lib.hid (hk10.more (fun _ h => h) (by have := HW8.out; omega))
                have K2 : Hid (Keep S W4.heap.size W5 W10) := Lib.hid (G4.out.trans (hk10.more (fun _ h => h) (by have := HW4.out; omega)))
                have K3 := Lib.hid (G2.out.keep hk10 H00.out HHI.out HCAP.out)
                have K4 := Lib.hid (G3.out.keep hk10 HDS.out)
                have K5 := Lib.hid hJ10
                clear hk10 hJ10 z0 x0 x1 x2 x3 x4
                gi_wp2
                exact ⟨K1.out, K5.out, K3.out, K4.out, K2.out, Nat.le_trans G5.out K1.out.size⟩
              · have K1 : Hid (Keep S W8.heap.size W9 W10) := Lib.hid (hk10.more (fun _ h => h) (by have := HW8.out; omega))
                have K2 : Hid (Keep S W4.heap.size W5 W10) := Lib.hid (G4.out.trans (hk10.more (fun _ h => h) (by have := HW4.out; omega)))
                have K4 := Lib.hid (G3.out.keep hk10 HDS.out)
                clear hk10 z0 x0 x1 x2 x3 x4
                gi_wp2
                exact ⟨K1.out, rfl, hx10, K4.out, K2.out⟩
            case done2 =>
              rintro W9 ⟨g1, g2, g3, g4, g5⟩
              rw [List.length_map] at g1
              have G1 : Hid (J (fpos givenB x j + 1 + spos givenB (flatB f.b) (k + 1)) W9) := Lib.hid (by rw [spos_yes HS.out HT.out]; rw [show fpos givenB x j + 1 + (spos givenB (flatB f.b) k + 1 + size s.e) = fpos givenB x j + 1 + spos givenB (flatB f.b) k + 1 + (flat s.e).length by unfold size; omega]; exact g1)
              have G2 := Lib.hid g2
              have G3 := Lib.hid g3
              have G4 := Lib.hid g4
              have G5 : Hid (W4.heap.size ≤ W9.heap.size) := Lib.hid (by have := HW8.out; omega)
              clear g1 g2 g3 g4 g5
              gi_wp2
              exact ⟨G4.out, G1.out, G2.out, G3.out, G5.out⟩
            case stop2 =>
              rintro c' W9 ⟨rfl, g2, g3, g4⟩
              have G2 := Lib.hid g2
              have G3 := Lib.hid g3
              have G4 := Lib.hid g4
              clear g2 g3 g4
              gi_wp2
              exact ⟨G4.out, rfl, G2.out, G3.out⟩
          · gi_wp2
            exact ⟨HK7.out, by rw [spos_no HS.out HT.out, ← Nat.add_assoc]; exact HJ7.out, HB7.out, HM7.out, Nat.le_trans HW5.out HK7.out.size⟩
        · have HM6 := Lib.hid (HM5.out.keep hk6 HDS.out)
          have HK6 : Hid (Keep S W4.heap.size W5 W6) := Lib.hid (hk6.more (fun _ h => h) (by have := HW4.out; omega))
          gi_wp2
          exact ⟨HK6.out, rfl, hx6, HM6.out⟩
      case done =>
        rintro D W5 hD ⟨h1, h2, h3, _⟩ hd
        have hm := h3.cons (fun hm => by have := HM4.out.lt D hm; omega) hd
        have hds : ∀ D' ∈ D :: ds, W.heap.size ≤ D' := fun D' hm' => by
          rcases List.mem_cons.1 hm' with rfl | hm'
          · have := HW4.out; omega
          · exact HDS.out D' hm'
        rw [List.length_map, ← fpos_succ HF.out] at h1
        have HI5 := Lib.hid (show J (fpos givenB x (j + 1)) W5 ∧ Base w0 W.heap.size l b2 28 W5 ∧ Marks (D :: ds) W5 ∧ ∀ D' ∈ D :: ds, W.heap.size ≤ D' from ⟨h1, h2, hm, hds⟩)
        clear h1 h2 h3 hd hm hds
        gi_wp2
        refine ⟨⟨j + 1, D :: ds, _, _, _, _, _, _, _, _, _, _, _, _, _, _, _, _, _, _, _, _, _, _, _, _, _, _, _, _, _, _, _, by omega, rfl, HI5⟩, ?_⟩
        simp [intOf]
        omega
      case stop =>
        rintro D c' W5 hD ⟨rfl, h2, h3⟩ hd
        have hm := h3.cons (fun hm => by have := HM4.out.lt D hm; omega) hd
        have hds : ∀ D' ∈ D :: ds, W.heap.size ≤ D' := fun D' hm' => by
          rcases List.mem_cons.1 hm' with rfl | hm'
          · have := HW4.out; omega
          · exact HDS.out D' hm'
        have HM5 := Lib.hid hm
        have HDS5 := Lib.hid hds
        have HX5 := Lib.hid h2
        clear h2 h3 hd hm hds
        gi_wp2
        exact ends_marks (ds := D :: ds) HJ.out HJX.out rfl HM5.out HDS5.out (.inr HX5.out)
    · have HM3 := Lib.hid (HM1.out.keep hk3 HDS.out)
      gi_wp2
      exact ends_marks HJ.out HJX.out rfl HM3.out HDS.out (.inr hx3)
  · obtain rfl : j = n := by omega
    gi_wp2
    refine ends_marks HJ.out HJX.out rfl hI.out.2.2.1 hI.out.2.2.2 (.inl ?_)
    have := hI.out.1
    unfold fpos at this
    rwa [List.take_of_length_le (Nat.le_of_eq HN.out)] at this
end Go.Proofs.YtmihlmlojmdhjaaGreatDoor.Tre
/- nodes, first: what these makers hand back; first's sequence: as many values as it may give, of a sequence of expressions. Conditions: the sequence gives these values. -/
namespace Go.Proofs.YtmihlmlojmdhjaaGreatDoor.Tre
open Go.RowKit
set_option maxRecDepth 100000
attribute [local go_sem] Oper.semAt_some
set_option maxHeartbeats 1000000 in
theorem nodes_any (F : Fence) (m : Nat) (hF : F.fn 27) (hro : F.round = none) (A : Option Addr) (n c h : Nat) (w : World) : CallsIn F m Tryz.prog 27 #[.slice A n c, .func (.func h) #[] #[]] w fun r w' => r = .returned (.func (.func 51) #[] #[.pointer (some ⟨w.heap.size, 0, none⟩), .pointer (some ⟨w.heap.size + 1, 0, none⟩)]) ∧ w' = (w.alloc (.cells #[.slice A n c] 23)).alloc (.cells #[.func (.func h) #[] #[]] 75) := by
  refine callsIn_of_wp Tryz.func27 rfl hF ?_ hro
  simp only [Tryz.ntmps27, List.size_toArray, List.length_cons, List.length_nil, Nat.reduceAdd, Nat.reduceSub, Array.replicate_succ, Array.replicate_zero, List.push_toArray, List.append_toArray, List.nil_append, List.cons_append]
  gi_wp2
  go_ret
  exact ⟨rfl, rfl⟩
set_option maxHeartbeats 1000000 in
theorem first_any (F : Fence) (m : Nat) (hF : F.fn 50) (hro : F.round = none) (n : Int) (g : Nat) (lb : Array Value) (w : World) : CallsIn F m Tryz.prog 50 #[.int .i64 n, .func (.func g) #[] lb] w fun r w' => r = .returned (.func (.func 96) #[] #[.pointer (some ⟨w.heap.size, 0, none⟩), .pointer (some ⟨w.heap.size + 1, 0, none⟩)]) ∧ w' = (w.alloc (.cells #[.int .i64 n] 3)).alloc (.cells #[.func (.func g) #[] lb] 73) := by
  refine callsIn_of_wp Tryz.func50 rfl hF ?_ hro
  simp only [Tryz.ntmps50, List.size_toArray, List.length_cons, List.length_nil, Nat.reduceAdd, Nat.reduceSub, Array.replicate_succ, Array.replicate_zero, List.push_toArray, List.append_toArray, List.nil_append, List.cons_append]
  gi_wp2
  go_ret
  exact ⟨rfl, rfl⟩
theorem set_at {w : World} {g : Nat} {cs : Array Value} {T : TypeId} (h : w.heap[g]? = some (.cells cs T (0, 0))) (i : Nat) (u : Value) :
    (w.setCell ⟨g, i, none⟩ u).heap[g]? = some (.cells (cs.setIfInBounds i u) T (0, 0)) := by simp [World.setCell, Array.getElem?_modify, h]
theorem free_at {w : World} {g : Nat} {cs : Array Value} {T : TypeId} (h : w.heap[g]? = some (.cells cs T (0, 0))) (i : Nat) : w.frozen? ⟨g, i, none⟩ = false := by simp [World.frozen?, h]
theorem other_at {w : World} {g b : Nat} {o : Obj} (h : w.heap[g]? = some o) (hne : g ≠ b) (i : Nat) (u : Value) : (w.setCell ⟨b, i, none⟩ u).heap[g]? = some o := (Below.heap_setCell w _ u g hne).trans h
theorem take_at {α : Type} {l : List α} {N k : Nat} {y : α} (h : l[k]? = some y) (hk : k < N) : (l.take N)[k]? = some y := by rw [List.getElem?_take, if_pos hk]; exact h
set_option maxHeartbeats 4000000 in
theorem first_gives {c0 : Nat} {caps : List Nat} {gf : Nat} {lb : Array Value} {ys : List Ex} {w : World} (hseq : Gives c0 caps gf lb (ys.map exV) w) (eg : ∀ args w, (callFunc gf args).run Tryz.prog w = .ok (.enter gf args) w) (hc0 : c0 ≤ w.heap.size) (hcaps : ∀ b ∈ caps, b < w.heap.size)
    (n : Int) (hn2 : n ≤ 1000000) (b1 b2 : Nat) (hb1 : w.heap[b1]? = some (.cells #[.int .i64 n] 3 (0, 0))) (hb2 : w.heap[b2]? = some (.cells #[.func (.func gf) #[] lb] 73 (0, 0))) :
    Gives c0 caps 96 #[.pointer (some ⟨b1, 0, none⟩), .pointer (some ⟨b2, 0, none⟩)] ((ys.take n.toNat).map exV) w := fun m l S hi J Jx W hB h00 hhi hcap hJ hJx hY h0 => by
  have HJ := Lib.hid hJ
  have HJX := Lib.hid hJx
  have H00 := Lib.hid h00
  have HHI := Lib.hid hhi
  have HSEQ := Lib.hid hseq
  have HB := Lib.hid hB
  have HCAP := Lib.hid hcap
  have HCW := Lib.hid hcaps
  have HC0 := Lib.hid hc0
  have HY : Hid (∀ m k y W1, k < n.toNat → ys[k]? = some y → J k W1 → YieldAt Fence.wide m Tryz.prog l #[exV y] W1 (Goes S W.heap.size J Jx (k + 1) W1)) := Lib.hid (fun m k y W1 hk hy hj => hY m k (exV y) W1 (map_at (take_at hy hk)) hj)
  have hbb : Below W.heap.size W ((W.alloc (.cells #[.func (.yield l) #[] #[]] 60)).alloc (.cells #[.int .i64 n] 3)) := ((Below.refl _ W).alloc (Nat.le_refl _) _).alloc (by simp) _
  have HBB := Lib.hid hbb
  have c1 := cell_at ((Below.heap_alloc W (.cells #[.func (.yield l) #[] #[]] 60) b1 (by have := lt_of_heap hb1; have := hB.size; omega)).trans ((hB.block b1 (lt_of_heap hb1)).trans hb1)) 0
  have c2 := cell_at ((hbb.block b2 (by have := lt_of_heap hb2; have := hB.size; omega)).trans ((hB.block b2 (lt_of_heap hb2)).trans hb2)) 0
  simp only [List.getElem?_toArray, List.getElem?_cons_zero] at c1 c2
  have HN1 : Hid (((W.alloc (.cells #[.func (.yield l) #[] #[]] 60)).alloc (.cells #[.int .i64 n] 3)).heap[W.heap.size]? = some (.cells #[.func (.yield l) #[] #[]] 60 (0, 0))) := Lib.hid ((Below.heap_alloc _ _ _ (by simp)).trans (new_at W _ _))
  have HN2 : Hid (((W.alloc (.cells #[.func (.yield l) #[] #[]] 60)).alloc (.cells #[.int .i64 n] 3)).heap[W.heap.size + 1]? = some (.cells #[.int .i64 n] 3 (0, 0))) := Lib.hid (by
    have := new_at (W.alloc (.cells #[.func (.yield l) #[] #[]] 60)) #[.int .i64 n] 3
    rwa [World.size_alloc] at this)
  have HJ0 : Hid (J 0 ((W.alloc (.cells #[.func (.yield l) #[] #[]] 60)).alloc (.cells #[.int .i64 n] 3))) := Lib.hid (hJ.alloc _ (hJ.alloc _ h0))
  have HSZ : Hid (((W.alloc (.cells #[.func (.yield l) #[] #[]] 60)).alloc (.cells #[.int .i64 n] 3)).heap.size = W.heap.size + 2) := Lib.hid (by simp)
  have HNN := Lib.hid hn2
  have HEG := Lib.hid eg
  rw [List.length_map]
  clear hJ hJx h00 hhi hseq hB hcap hcaps hc0 hY hbb hb1 hb2 h0 hn2 eg
  refine callsIn_of_wp_marks Tryz.func96 rfl trivial ?_ rfl
  simp only [Tryz.ntmps96, List.size_toArray, List.length_cons, List.length_nil, Nat.reduceAdd, Nat.reduceSub, Array.replicate_succ, Array.replicate_zero, List.push_toArray, List.append_toArray, List.nil_append, List.cons_append]
  gi_wp2
  obtain ⟨X0, hX0⟩ : ∃ X0, (W.alloc (.cells #[.func (.yield l) #[] #[]] 60)).alloc (.cells #[.int .i64 n] 3) = X0 := ⟨_, rfl⟩
  rw [hX0] at HN1 HN2 HJ0 HSZ HBB ⊢
  clear hX0 c1 c2
  refine wp_over (c0 := c0) (caps := caps) (S := fun b => S b ∨ b = W.heap.size + 1) (hi := W.heap.size + 2) (vals := ys.map exV) (w0 := X0) (gf := gf) (lb := lb) rfl HEG.out (HSEQ.out.later (HB.out.trans (HBB.out.mono HB.out.size))) (Below.refl _ _) rfl
    (fun b hb => by rcases hb with hb | rfl; exact ⟨(H00.out b hb).1, by have := (H00.out b hb).2; have := HHI.out; omega⟩; exact ⟨by have := HC0.out; have := HB.out.size; omega, by omega⟩) (by have := HSZ.out; omega)
    (fun b hb hs => by rcases hs with hs | rfl; exact HCAP.out b hb hs; have := HCW.out _ hb; have := HB.out.size; omega)
    (I := fun k W' => k ≤ n.toNat ∧ J k W' ∧ W'.heap[W.heap.size]? = some (.cells #[.func (.yield l) #[] #[]] 60 (0, 0)) ∧ W'.heap[W.heap.size + 1]? = some (.cells #[.int .i64 (n - k)] 3 (0, 0)) ∧ W.heap.size + 2 ≤ W'.heap.size)
    (Ix := fun c W' => c = .ret ∧ (J (min n.toNat ys.length) W' ∨ Jx W'))
    (A := fun k a' W' => ∃ y By, ys[k]? = some y ∧ a' = { tmps := #[.func (.yield l) #[] #[], .pointer (some ⟨b1, 0, none⟩), .pointer (some ⟨b2, 0, none⟩), .pointer (some ⟨W.heap.size, 0, none⟩), .pointer (some ⟨W.heap.size + 1, 0, none⟩), .pointer (some ⟨By, 0, none⟩), .int .i64 n, .func (.func gf) #[] lb, .agg #[.int .i64 y.op, .int .i64 y.n, .string y.s, .string y.q, .slice y.a y.x.length y.c], undef, undef, undef, undef, undef, undef, undef, undef, undef, undef], defers := [] } ∧ W'.heap[By]? = some (.cells #[.int .i64 y.op, .int .i64 y.n, .string y.s, .string y.q, .slice y.a y.x.length y.c] 42 (0, 0)) ∧ W.heap.size + 2 ≤ By ∧ k ≤ n.toNat ∧ J k W' ∧ W'.heap[W.heap.size]? = some (.cells #[.func (.yield l) #[] #[]] 60 (0, 0)) ∧ W'.heap[W.heap.size + 1]? = some (.cells #[.int .i64 (n - k)] 3 (0, 0)) ∧ W.heap.size + 2 ≤ W'.heap.size)
    ?ownI ?ownX ?ownA ?start ?assign ?body ?done ?stop
  case ownI =>
    rintro k X Y row ⟨h1, h2, h3, h4, h5⟩ hg hr
    have hs := HSZ.out
    exact ⟨h1, HJ.out _ X Y row h2 hg (fun r e => by have := hr r e; omega), (hg.block _ (lt_of_heap h3) (fun e => by have := hr _ e.symm; omega)).trans h3, (hg.block _ (lt_of_heap h4) (fun e => by have := hr _ e.symm; omega)).trans h4, Nat.le_trans h5 hg.size⟩
  case ownX =>
    rintro c' k X Y row ⟨h1, h2⟩ hg hr
    have hs := HSZ.out
    refine ⟨h1, ?_⟩
    rcases h2 with h2 | h2
    · exact .inl (HJ.out _ X Y row h2 hg (fun r e => by have := hr r e; omega))
    · exact .inr (HJX.out () X Y row h2 hg (fun r e => by have := hr r e; omega))
  case ownA =>
    rintro k a' _ X Y row ⟨y, By, q1, q2, q3, q4, h1, h2, h3, h4, h5⟩ hg hr
    have hs := HSZ.out
    exact ⟨y, By, q1, q2, cells_grown hg (fun r e => (hr r e).2) q3, q4, h1, HJ.out _ X Y row h2 hg (fun r e => by have := (hr r e).1; omega), cells_grown hg (fun r e => (hr r e).2) h3, cells_grown hg (fun r e => (hr r e).2) h4, Nat.le_trans h5 hg.size⟩
  case start => exact ⟨Nat.zero_le _, HJ0.out, HN1.out, by have := HN2.out; rwa [show n - ((0 : Nat) : Int) = n by omega], by have := HSZ.out; omega⟩
  case assign =>
    rintro l2 k v m2 W5 hv ⟨h1, h2, h3, h4, h5⟩
    obtain ⟨y, hy9, rfl⟩ : ∃ y, ys[k]? = some y ∧ exV y = v := by simpa using hv
    have hb := ball_new W5 #[.int .i64 y.op, .int .i64 y.n, .string y.s, .string y.q, .slice y.a y.x.length y.c] 42
    have G1 := Lib.hid (HJ.out.alloc (.cells #[.int .i64 y.op, .int .i64 y.n, .string y.s, .string y.q, .slice y.a y.x.length y.c] 42) h2)
    have G3 := Lib.hid ((hb.block _ (lt_of_heap h3)).trans h3)
    have G4 := Lib.hid ((hb.block _ (lt_of_heap h4)).trans h4)
    have G5 := Lib.hid hy9
    have G6 := Lib.hid (new_at W5 #[.int .i64 y.op, .int .i64 y.n, .string y.s, .string y.q, .slice y.a y.x.length y.c] 42)
    have G8 := Lib.hid h5
    have G9 := Lib.hid h1
    rw [exV_eq]
    clear h1 h2 h3 h4 h5 hv hy9 hb
    gi_wp2
    exact ⟨Keep.alloc _, y, _, G5.out, rfl, G6.out, G8.out, G9.out, G1.out, G3.out, G4.out, Nat.le_trans G8.out (by simp)⟩
  case body =>
    rintro l2 k v m2 a' W5 _ _ _ ⟨y, By, hy9, rfl, hby, hBy, h1, h2, h3, h4, h5⟩
    have z0 := cell_at h3 0
    have z1 := cell_at h4 0
    simp only [List.getElem?_toArray, List.getElem?_cons_zero] at z0 z1
    have ⟨x0, x1, x2, x3, x4⟩ := five_at hby
    have HLEN := Lib.hid (List.getElem?_eq_some_iff.1 hy9).1
    have HKN := Lib.hid h1
    have HJ5 := Lib.hid h2
    have HH3 := Lib.hid h3
    have HH4 := Lib.hid h4
    have HH5 := Lib.hid h5
    by_cases hlt : (k : Int) < n
    · obtain ⟨fn, tmps, assign, body, hy, hR⟩ := HY.out (m2 - 1) k y W5 (by omega) hy9 h2
      rw [exV_eq] at hy
      have HRY := Lib.hid hR
      obtain ⟨d, hd⟩ : ∃ d : Nat, n - k = (d : Int) + 1 := ⟨(n - k).toNat - 1, by omega⟩
      have hd2 : d ≤ 1000000 := by have := HNN.out; omega
      have HD := Lib.hid hd
      rw [hd] at z1
      have hq : decide ((d : Int) + 1 ≤ 0) = false := by rw [decide_eq_false_iff_not]; omega
      clear hy9 hby hBy h1 h2 h3 h4 h5 hR hd hlt
      gi_wp2
      refine ⟨(fun h => by cases h), ?_⟩
      refine RoundIn.mono (F := Fence.wide.inRound l2) HRY.out ?_
      rintro e6 W6 (⟨rfl, hJ6, hk6⟩ | ⟨rfl, hx6, hk6⟩)
      · have hno : ∀ b, W.heap.size ≤ b → ¬ S b := fun b hb hs => by have := (H00.out b hs).2; have := HHI.out; omega
        have K3 := Lib.hid (hk6.cell (hno _ (Nat.le_refl _)) HH3.out)
        have K4 := Lib.hid (hk6.cell (hno _ (by omega)) HH4.out)
        have K5 := Lib.hid hJ6
        have K6 := Lib.hid hk6
        have z2 := cell_at K4.out 0
        simp only [List.getElem?_toArray, List.getElem?_cons_zero] at z2
        rw [HD.out] at z2
        clear hk6 hJ6 hno z0 z1 x0 x1 x2 x3 x4
        have fz := free_at K4.out 0
        gi_wp2
        have e9 : n - ((k + 1 : Nat) : Int) = (d : Int) := by have := HD.out; omega
        have hs4 : (W6.setCell ⟨W.heap.size + 1, 0, none⟩ (.int .i64 (d : Int))).heap[W.heap.size + 1]? = some (.cells #[.int .i64 (d : Int)] 3 (0, 0)) := set_at K4.out 0 _
        refine ⟨(K6.out.more (fun _ h => .inl h) (by have := HSZ.out; omega)).trans (Keep.set (.inr rfl) K4.out), by have := HD.out; omega, HJ.out.setCell _ K5.out (by omega), other_at K3.out (by omega) _ _, ?_, ?_⟩
        · rw [e9]; exact hs4
        · have h1 := K6.out.size
          have h2 := HH5.out
          have h3 := (KeepsWalks.setCell W6 ⟨W.heap.size + 1, 0, none⟩ (.int .i64 (d : Int))).size
          omega
      · have K6 := Lib.hid hk6
        clear hk6 z0 z1 x0 x1 x2 x3 x4
        gi_wp2
        exact ⟨K6.out.more (fun _ h => .inl h) (by have := HSZ.out; omega), rfl, .inr hx6⟩
    · clear hy9 hby hBy h1 h2 h3 h4 h5
      gi_wp2
      refine ⟨fun _ h => (by cases h), ?_⟩
      gi_wp2
      refine ⟨Keep.refl _ _ _, rfl, .inl ?_⟩
      rw [show min n.toNat ys.length = k by have := HLEN.out; have := HKN.out; omega]
      exact HJ5.out
  case done =>
    rintro D W5 hD ⟨h1, h2, h3, h4, h5⟩ hd
    rw [List.length_map] at h1 h2
    have G1 := Lib.hid h1
    have G2 := Lib.hid h2
    have G3 := Lib.hid ((Marks.nil W5).cons (by simp) hd)
    have G4 : Hid (∀ D' ∈ [D], W.heap.size ≤ D') := Lib.hid (fun D' hm => by have := HSZ.out; simp at hm; omega)
    clear h1 h2 h3 h4 h5 hd
    gi_wp2
    refine ends_marks (ds := [D]) HJ.out HJX.out rfl G3.out G4.out (.inl ?_)
    rw [List.length_take, show min n.toNat ys.length = ys.length by have := G1.out; omega]
    exact G2.out
  case stop =>
    rintro D c' W5 hD ⟨rfl, h2⟩ hd
    have G2 := Lib.hid h2
    have G3 := Lib.hid ((Marks.nil W5).cons (by simp) hd)
    have G4 : Hid (∀ D' ∈ [D], W.heap.size ≤ D') := Lib.hid (fun D' hm => by have := HSZ.out; simp at hm; omega)
    clear h2 hd
    gi_wp2
    refine ends_marks (ds := [D]) HJ.out HJX.out rfl G3.out G4.out ?_
    rw [List.length_take]
    exact G2.out
end Go.Proofs.YtmihlmlojmdhjaaGreatDoor.Tre
