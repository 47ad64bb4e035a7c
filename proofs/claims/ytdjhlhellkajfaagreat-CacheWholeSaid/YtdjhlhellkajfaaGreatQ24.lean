/-
  Texts JOpen, KPack, KLPk, in one file. What each proves, and its conditions, stand at its head below.
-/
import Derived.Test.YtdjhlhellkajfaaGreatQ5
import Derived.Test.YtdjhlhellkajfaaGreatQ8
import Derived.Test.YtdjhlhellkajfaaGreatQ14
import Derived.Test.YtdjhlhellkajfaaGreatQ23
import Derived.Deep.DeepCutAuto
/-
  What Open of a journal tells. Conditions: the disk is known.
-/
namespace Go.Proofs.YtdjhlhellkajfaaGreat.Jou
open Go.RowKit Codec FrameM Cod JourM Go.Shelf
open Disk (Turn Dk Dsk ptr Now)
open Frm (Above U8)
set_option maxRecDepth 100000
attribute [local go_sem] Oper.semAt_some
theorem keepB_on {d : Dsk} {i : Nat} {l : List (List UInt8)} (h : keepB d i l = true) : (keepD d i l).off = false := by
  simp only [keepB, Bool.and_eq_true] at h
  unfold keepD
  rw [h.1, if_pos rfl, sy_go h.2]
  exact deed_go h.2
theorem beginB_on {d : Dsk} {gen : Nat} {l : List (List UInt8)} (h : beginB d gen l = true) : (beginD d gen l).off = false := by
  simp only [beginB, Bool.and_eq_true] at h
  unfold beginD
  rw [if_pos h.1]
  exact keepB_on h.2
theorem openB_on {d : Dsk} (h : openB d = true) (ho : d.off = false) : (openD d).off = false := by
  unfold openB at h
  unfold openD
  split at h
  · rename_i h0
    rw [if_pos h0]
    exact beginB_on h
  · rename_i h0
    rw [if_neg h0]
    exact ho
section
variable {w w' : World} {lo j g gs gm : Nat} {d : Dsk} {jr : Jr} {v : Value}
/-- What turns no cells, from lo on. -/
theorem Jn.quiet {row : Option Nat} (h : Jn w lo j g gs gm d jr v) (hg : w.grownBy w' row) (hr : ∀ r, row = some r → lo ≤ r ∧ ∃ o : Obj, w.heap[r]? = some o ∧ o.isCells = false) : Jn w' lo j g gs gm d jr v := by
  have ne : ∀ {k : Nat} {cs : Array Value} {T : TypeId} {fr : Nat × Nat}, w.heap[k]? = some (.cells cs T fr) → some k ≠ row := fun hk e => by
    obtain ⟨_, o, ho, hc⟩ := hr _ e.symm
    rw [hk] at ho
    cases ho
    cases hc
  have low : ∀ {k : Nat}, k < lo → some k ≠ row := fun hk e => by
    have := (hr _ e.symm).1
    omega
  obtain ⟨its, o1, o2, o3⟩ := h.own
  refine ⟨h.disk.keep (hg.block g h.disk.lt (low (h.lows g (by simp)))) (hg.block gs h.disk.sf.1 (low (h.lows gs (by simp)))) (hg.block gm h.disk.ltm (low (h.lows gm (by simp)))) hg.size, (hg.block j (lt_of_heap h.hd) (ne h.hd)).trans h.hd,
    ⟨its, own_same o1 fun r hr => ?_, o2, fun x hx => ?_⟩, h.lows, Nat.le_trans h.le hg.size, h.n8, h.one, h.big, h.fit⟩
  · obtain ⟨_, cur, hc⟩ := own_type o1 hr
    exact hg.block r (lt_of_heap hc) (ne hc)
  · have hx := o3 x hx
    have hb : ∀ p : Addr, x.A = some p → w'.heap[p.block]? = w.heap[p.block]? := fun p hp => by
      obtain ⟨cs, hc⟩ := hx.u8 p hp
      exact hg.block _ (lt_of_heap hc) (ne hc)
    refine ⟨⟨hx.byts.len, fun hn => ?_⟩, hx.mc, hx.cm, hx.ab, fun p hp => ?_⟩
    · obtain ⟨b, off, e, hl, hc⟩ := hx.byts.at_ hn
      have hbb := hb _ e
      exact ⟨b, off, e, Nat.lt_of_lt_of_le hl hg.size, fun i hi => (World.cell?_of_block (w := w) (a := ⟨b, off + i, none⟩) hbb).trans (hc i hi)⟩
    · obtain ⟨cs, hc⟩ := hx.u8 p hp
      exact ⟨cs, (hb p hp).trans hc⟩
end
theorem open_small (w : World) (g gs gm : Nat) (d : Dsk) (h : Dk w g gs gm d) (h8 : d.n < 8) : Calls Tryz.prog 13 #[ptr g] w (Disk.Ends (.tuple #[.pointer none, .int .i64 1]) w) := by
  have HS := Lib.hid (Disk.sectors_disk w g gs gm d h)
  have h8i : (d.n : Int) < 8 := by omega
  clear h
  unfold ptr at *
  refine (callsIn_wide (n := 5)).1 ?_
  refine callsIn_of_wp_marks Tryz.func13 rfl trivial ?_ rfl
  simp only [Tryz.ntmps13, List.size_toArray, List.length_cons, List.length_nil, Nat.reduceAdd, Nat.reduceSub, Array.replicate_succ, Array.replicate_zero, List.push_toArray, List.append_toArray, List.nil_append, List.cons_append]
  gi_wp2
  refine ⟨trivial, (callsIn_wide.2 HS.out).mono ?_⟩
  rintro e w1 ⟨rfl, rfl⟩
  gi_wp2
  exact ⟨_, results_tmp2 rfl _ _ _, rfl, rfl⟩
theorem open_none (w : World) : Calls Tryz.prog 13 #[.pointer none] w (Disk.Ends (.tuple #[.pointer none, .int .i64 1]) w) := by
  have HS := Lib.hid (Disk.sectors_none w (.pointer none) (.inl rfl))
  refine (callsIn_wide (n := 5)).1 ?_
  refine callsIn_of_wp_marks Tryz.func13 rfl trivial ?_ rfl
  simp only [Tryz.ntmps13, List.size_toArray, List.length_cons, List.length_nil, Nat.reduceAdd, Nat.reduceSub, Array.replicate_succ, Array.replicate_zero, List.push_toArray, List.append_toArray, List.nil_append, List.cons_append]
  gi_wp2
  refine ⟨trivial, (callsIn_wide.2 HS.out).mono ?_⟩
  rintro e w1 ⟨rfl, rfl⟩
  gi_wp2
  exact ⟨_, results_tmp2 rfl _ _ _, rfl, rfl⟩
theorem open_off (w : World) (g gs gm : Nat) (d : Dsk) (h : Dk w g gs gm d) (h8 : 8 ≤ d.n) (ho : d.off = true) : Calls Tryz.prog 13 #[ptr g] w (Disk.Ends (.tuple #[.pointer none, .int .i64 3]) w) := by
  have HS := Lib.hid (Disk.sectors_disk w g gs gm d h)
  have HD := Lib.hid (Disk.down_disk w g gs gm d h)
  rw [ho] at HD
  have h8i : 8 ≤ (d.n : Int) := by omega
  clear h ho
  unfold ptr at *
  refine (callsIn_wide (n := 5)).1 ?_
  refine callsIn_of_wp_marks Tryz.func13 rfl trivial ?_ rfl
  simp only [Tryz.ntmps13, List.size_toArray, List.length_cons, List.length_nil, Nat.reduceAdd, Nat.reduceSub, Array.replicate_succ, Array.replicate_zero, List.push_toArray, List.append_toArray, List.nil_append, List.cons_append]
  gi_wp2
  refine ⟨trivial, (callsIn_wide.2 HS.out).mono ?_⟩
  rintro e w1 ⟨rfl, rfl⟩
  gi_wp2
  refine ⟨trivial, (callsIn_wide.2 HD.out).mono ?_⟩
  rintro e w1 ⟨rfl, rfl⟩
  gi_wp2
  exact ⟨_, results_tmp2 rfl _ _ _, rfl, rfl⟩
/-- What the loop over the groups keeps. -/
structure OI (w V U : World) (lo j k6 g gs gm G : Nat) (d : Dsk) (pre : List It) (v : Value) : Prop where
  jn : Jn U lo j g gs gm d ⟨G, pre.map It.xs, false⟩ v
  b6 : U.heap[k6]? = some (.cells #[.pointer (some ⟨j, 0, none⟩)] 33)
  fr : Turn [g, gs, gm] w U
theorem OI.c6 {w V U : World} {lo j k6 g gs gm G : Nat} {d : Dsk} {pre : List It} {v : Value} (h : OI w V U lo j k6 g gs gm G d pre v) : U.cell? ⟨k6, 0, none⟩ = some (.pointer (some ⟨j, 0, none⟩)) := cell_at h.b6 0
theorem OI.own {w V : World} {lo j k6 g gs gm G : Nat} {d : Dsk} (hw : w.heap.size ≤ lo) : OwnFrom lo (fun (pre : List It) U => ∃ v, OI w V U lo j k6 g gs gm G d pre v) := by
  rintro pre U U' row ⟨v, h⟩ hg hr
  refine ⟨v, h.jn.quiet hg hr, ?_, ?_⟩
  · refine (hg.block k6 (lt_of_heap h.b6) fun e => ?_).trans h.b6
    obtain ⟨_, o, ho, hc⟩ := hr _ e.symm
    rw [h.b6] at ho
    cases ho
    cases hc
  · exact h.fr.grown hg fun k hk => .inr (by have := (hr k hk).1; omega)
/-- What an Open that is answered OK leaves. -/
def Opened (w : World) (g gs gm : Nat) (d : Dsk) (jr : Jr) (e : Ending) (w' : World) : Prop :=
  ∃ lo j v, e = .returned (.tuple #[ptr j, .int .i64 0]) ∧ Jn w' lo j g gs gm d jr v ∧ Turn [g, gs, gm] w w' ∧ w.heap.size ≤ j
theorem It.ok.put {w : World} {lo l : Nat} {x : It} {o o' : Obj} (h : x.ok w lo) (ho : w.heap[l]? = some o) (hc : o.isCells = false) : x.ok (w.putObj l o') lo := by
  have hb : ∀ p : Addr, x.A = some p → (w.putObj l o').heap[p.block]? = w.heap[p.block]? := fun p hp => by
    obtain ⟨cs, hcs⟩ := h.u8 p hp
    refine World.putObj_heap_other fun e => ?_
    rw [e, ho] at hcs
    cases hcs
    cases hc
  refine ⟨⟨h.byts.len, fun hn => ?_⟩, h.mc, h.cm, h.ab, fun p hp => ?_⟩
  · obtain ⟨b, off, e, hl, hcc⟩ := h.byts.at_ hn
    have hbb := hb _ e
    exact ⟨b, off, e, by simp [World.putObj]; exact hl, fun i hi => (World.cell?_of_block (w := w) (a := ⟨b, off + i, none⟩) hbb).trans (hcc i hi)⟩
  · obtain ⟨cs, hcs⟩ := h.u8 p hp
    exact ⟨cs, (hb p hp).trans hcs⟩
theorem own_row {w : World} {lo j g gs gm : Nat} {d : Dsk} {jr : Jr} {v : Value} (h : Jn w lo j g gs gm d jr v) {k : Nat} (hk : k ∈ j :: v.ownBlock.toList) : (k = j ∨ lo ≤ k) ∧ ∃ (cs : Array Value) (T : TypeId), w.heap[k]? = some (.cells cs T (0, 0)) := by
  obtain ⟨its, o1, _⟩ := h.own
  rcases List.mem_cons.1 hk with rfl | hk
  · exact ⟨.inl rfl, _, _, h.hd⟩
  · obtain ⟨h1, cur, h2⟩ := own_type o1 (by simpa using hk)
    exact ⟨.inr h1, cur, _, h2⟩
theorem round_open {w V U W3 : World} {lo j k6 kb g gs gm G : Nat} {d : Dsk} {pre : List It} {x : It} {v v' : Value} (h : OI w V U lo j k6 g gs gm G d pre v) (hjn : Jn W3 lo j g gs gm d { (⟨G, pre.map It.xs, false⟩ : Jr) with gs := pre.map It.xs ++ [x.xs] } v') (ht : Turn (j :: v.ownBlock.toList) U W3)
    (hkb : kb < lo ∧ kb ≠ j) (hk6 : k6 < lo ∧ k6 ≠ j) (hw : w.heap.size ≤ j ∧ w.heap.size ≤ lo) : KeepsFrom lo U W3 ∧ Kg kb g gs gm U W3 ∧ ∃ v, OI w V W3 lo j k6 g gs gm G d (pre ++ [x]) v := by
  have hap := h.jn.apart
  simp only [List.mem_cons, List.not_mem_nil, or_false, not_or] at hap
  have out : ∀ {k : Nat}, k < lo → k ≠ j → k ∉ j :: v.ownBlock.toList := fun h1 h2 hm => by
    rcases (own_row h.jn hm).1 with e | e <;> omega
  refine ⟨⟨ht.size, fun k o hB hk ho => (ht.block k (Array.getElem?_eq_some_iff.1 hk).1 fun hm => ?_).trans hk⟩, ⟨fun k hk => ?_, ht.size⟩, v', ⟨?_, (ht.block k6 (lt_of_heap h.b6) (out hk6.1 hk6.2)).trans h.b6, h.fr.then_ ht fun k hk => .inr ?_⟩⟩
  · obtain ⟨_, cs, T, hc⟩ := own_row h.jn hm
    rw [hk] at hc
    cases hc
    cases ho
  · simp only [List.mem_cons, List.not_mem_nil, or_false] at hk
    have l1 := h.jn.lows g (by simp)
    have l2 := h.jn.lows gs (by simp)
    have l3 := h.jn.lows gm (by simp)
    have := h.jn.le
    rcases hk with rfl | rfl | rfl | rfl
    · exact ht.block _ (by omega) (out hkb.1 hkb.2)
    · exact ht.block _ (by omega) (out l1 (by omega))
    · exact ht.block _ (by omega) (out l2 (by omega))
    · exact ht.block _ (by omega) (out l3 (by omega))
  · have e : (pre ++ [x]).map It.xs = pre.map It.xs ++ [x.xs] := by simp
    rw [e]
    exact hjn
  · rcases (own_row h.jn hk).1 with e | e <;> omega
theorem OI.fin {w V U : World} {lo j k6 g gs gm G D : Nat} {d : Dsk} {pre : List It} {v : Value} (h : OI w V U lo j k6 g gs gm G d pre v) (hD : lo ≤ D) (hK : U.heap[D]? = some (.deferred (some []))) (hw : w.heap.size ≤ lo) :
    Jn (U.putObj D (.deferred none)) lo j g gs gm d ⟨G, pre.map It.xs, false⟩ v ∧ Turn [g, gs, gm] w (U.putObj D (.deferred none)) := by
  refine ⟨h.jn.quiet (grownBy_putObj' U D _) (fun r e => by cases e; exact ⟨hD, _, hK, rfl⟩), h.fr.grown (grownBy_putObj' U D _) fun k e => .inr (by cases e; omega)⟩
theorem jn_new {V : World} {j g gs gm G : Nat} {d : Dsk} (hd : Dk V g gs gm d) (hj : V.heap[j]? = some (.cells #[.pointer (some ⟨g, 0, none⟩), .int .i64 G, .slice none 0 0, .int .i64 0, .bool false] 109)) (h8 : 8 ≤ d.n) (h1 : 1 ≤ G) (hb : G < 9223372036854775807) : Jn V V.heap.size j g gs gm d ⟨G, [], false⟩ (.slice none 0 0) := by
  refine ⟨hd, hj, ⟨[], World.ownsRow_nil V V.heap.size 39 1, rfl, by simp⟩, fun x hx => ?_, Nat.le_refl _, h8, h1, hb, Nat.zero_le _⟩
  have := Dk.lows hd
  rcases List.mem_cons.1 hx with rfl | hx
  · exact lt_of_heap hj
  · exact this x hx
/-- Four new blocks. -/
theorem four_new (w : World) (a b c e : Obj) : Below w.heap.size w ((((w.alloc a).alloc b).alloc c).alloc e) ∧ ((((w.alloc a).alloc b).alloc c).alloc e).heap[w.heap.size]? = some a ∧ ((((w.alloc a).alloc b).alloc c).alloc e).heap[w.heap.size + 1]? = some b ∧
    ((((w.alloc a).alloc b).alloc c).alloc e).heap[w.heap.size + 1 + 1]? = some c ∧ ((((w.alloc a).alloc b).alloc c).alloc e).heap[w.heap.size + 1 + 1 + 1]? = some e := by
  have h1 := heap_alloc_new w a
  have h2 := heap_alloc_new (w.alloc a) b
  have h3 := heap_alloc_new ((w.alloc a).alloc b) c
  have h4 := heap_alloc_new (((w.alloc a).alloc b).alloc c) e
  simp only [World.size_alloc] at h2 h3 h4
  have k : ∀ (u : World) (o : Obj) (i : Nat), i < u.heap.size → (u.alloc o).heap[i]? = u.heap[i]? := fun u o i hi => Below.heap_alloc u o i hi
  refine ⟨(((Below.refl _ w).alloc (Nat.le_refl _) _).alloc (by simp) _ |>.alloc (by simp <;> omega) _).alloc (by simp <;> omega) _, ?_, ?_, ?_, h4⟩
  · rw [k _ _ _ (by simp <;> omega), k _ _ _ (by simp <;> omega), k _ _ _ (by simp)]
    exact h1
  · rw [k _ _ _ (by simp <;> omega), k _ _ _ (by simp)]
    exact h2
  · rw [k _ _ _ (by simp)]
    exact h3
set_option maxHeartbeats 4000000 in
theorem open_old (w : World) (g gs gm : Nat) (d : Dsk) (h : Dk w g gs gm d) (h8 : 8 ≤ d.n) (ho : d.off = false) (hn : newest (rd d) ≠ 0) (hb : newest (rd d) < 9223372036854775807) : Calls Tryz.prog 13 #[ptr g] w (Opened w g gs gm (openD d) (openJ d)) := by
  have hmp0 := getM_pos (rd d 0)
  have HS := Lib.hid (Disk.sectors_disk w g gs gm d h)
  have HD := Lib.hid (Disk.down_disk w g gs gm d h)
  have HN := Lib.hid (newest_any w g gs gm d h ho)
  have HGF := Lib.hid (fun u G => groups_fn u g G)
  have h8i : 8 ≤ (d.n : Int) := by omega
  have hnb : newB (rd d) = true := by unfold newB; simp; omega
  have HDK : Hid (openD d = d) := Lib.hid (by unfold openD; rw [if_neg hn])
  have HGG : Hid ((⟨newest (rd d), groups (rd d) d.n (newest (rd d)), false⟩ : Jr) = openJ d) := Lib.hid (by unfold openJ; rw [HDK.out]; unfold openG; rw [if_neg hn])
  have HDW := Lib.hid h
  have HOF := Lib.hid ho
  have hG1 : 1 ≤ newest (rd d) := by omega
  rw [hnb] at HN
  rw [ho] at HD
  generalize newest (rd d) = G at *
  have HG1 := Lib.hid (And.intro hG1 hb)
  unfold hv at HGF
  unfold hbox ptr at *
  refine (callsIn_wide (n := 5)).1 ?_
  refine callsIn_of_wp_marks Tryz.func13 rfl trivial ?_ rfl
  simp only [Tryz.ntmps13, List.size_toArray, List.length_cons, List.length_nil, Nat.reduceAdd, Nat.reduceSub, Array.replicate_succ, Array.replicate_zero, List.push_toArray, List.append_toArray, List.nil_append, List.cons_append]
  clear h hn hnb ho hG1 hb hmp0
  gi_wp2
  refine ⟨trivial, (callsIn_wide.2 HS.out).mono ?_⟩
  rintro e w1 ⟨rfl, rfl⟩
  gi_wp2
  refine ⟨trivial, (callsIn_wide.2 HD.out).mono ?_⟩
  rintro e w1 ⟨rfl, rfl⟩
  gi_wp2
  refine ⟨trivial, (callsIn_wide.2 HN.out).mono ?_⟩
  rintro e w1 ⟨rfl, hb1⟩
  have HB1 := Lib.hid hb1
  clear hb1
  gi_wp2
  refine ⟨trivial, (callsIn_wide.2 (HGF.out _ G)).mono ?_⟩
  rintro e w2 ⟨rfl, rfl⟩
  gi_wp2
  have HV := Lib.hid (four_new w1 (.cells #[.pointer (some ⟨g, 0, none⟩), .int .i64 G] 105) (.cells #[.pointer (some ⟨g, 0, none⟩), .int .i64 G, .slice none 0 0, .int .i64 0, .bool false] 109) (.cells #[.pointer (some ⟨w1.heap.size + 1, 0, none⟩)] 33) (.cells #[.pointer (some ⟨g, 0, none⟩), .int .i64 G] 105))
  generalize hV : (((w1.alloc (.cells #[.pointer (some ⟨g, 0, none⟩), .int .i64 G] 105)).alloc (.cells #[.pointer (some ⟨g, 0, none⟩), .int .i64 G, .slice none 0 0, .int .i64 0, .bool false] 109)).alloc (.cells #[.pointer (some ⟨w1.heap.size + 1, 0, none⟩)] 33)).alloc (.cells #[.pointer (some ⟨g, 0, none⟩), .int .i64 G] 105) = V at *
  clear hV
  obtain ⟨v0, v1, v2, v3, v4⟩ := HV.out
  have HJW : Hid (w.heap.size ≤ w1.heap.size + 1) := Lib.hid (by have := HB1.out.size; omega)
  have HVW : Hid (w.heap.size ≤ V.heap.size) := Lib.hid (by have := HB1.out.size; have := v0.size; omega)
  have HOI : Hid (OI w V V V.heap.size (w1.heap.size + 1) (w1.heap.size + 1 + 1) g gs gm G d [] (.slice none 0 0)) := Lib.hid ⟨jn_new (Dk.below (Dk.below HDW.out HB1.out) v0) v2 (by omega) HG1.out.1 HG1.out.2, v3, (Turn.ofBelow HB1.out).trans (Turn.ofBelow v0)⟩
  have HBK := Lib.hid v4
  have HLS : Hid (∀ x ∈ [w1.heap.size + 1 + 1 + 1, g, gs, gm], x < V.heap.size) := Lib.hid (fun x hx => by
    rcases List.mem_cons.1 hx with rfl | hx
    · exact lt_of_heap HBK.out
    · exact Dk.lows HOI.out.jn.disk x hx)
  have HKK : Hid (w1.heap.size + 1 + 1 < V.heap.size) := Lib.hid (lt_of_heap v3)
  clear v0 v1 v2 v3 v4
  refine wpIn_range_told (gf := 103) (lb := #[.pointer (some ⟨w1.heap.size + 1 + 1 + 1, 0, none⟩)]) rfl (enters_of Tryz.func103 (by kernel_rfl) rfl) (fun x : It => #[x.val]) (Fg V.heap.size (room d.n)) (Kg (w1.heap.size + 1 + 1 + 1) g gs gm) (fun xs => xs.map It.xs = groups (rd d) d.n G)
    (groups_tells 4 _ g gs gm _ _ V HBK.out HOI.out.jn.disk HOF.out (by have := HOI.out.jn.n8; omega) (by have := HG1.out.2; omega) V.heap.size (Nat.le_refl _)) (fun _ => rfl)
    (fun h k => ⟨fun x hx => (k.1 x hx).trans (h.1 x hx), Nat.le_trans h.2 k.2⟩)
    (fun U l o o' hl ho _ => ⟨fun x hx => World.putObj_heap_other (by have := HLS.out x hx; omega), by simp [World.putObj]⟩)
    (fun pre x U l o o' hx ho hc => ⟨hx.1.put ho hc, hx.2⟩)
    (fun pre U => ∃ v, OI w V U V.heap.size (w1.heap.size + 1) (w1.heap.size + 1 + 1) g gs gm G d pre v) (OI.own HVW.out) ⟨_, HOI.out⟩
    (fun x => { tmps := #[.pointer (some ⟨g, 0, none⟩), undef, .pointer none, .int .i64 0, .pointer (some ⟨w1.heap.size, 0, none⟩), .bool true, .pointer (some ⟨w1.heap.size + 1 + 1, 0, none⟩), x.val, .pointer (some ⟨g, 0, none⟩), .int .i64 d.n, .bool (decide ((d.n : Int) < 8)), .pointer (some ⟨g, 0, none⟩), .bool false, .tuple #[.agg #[.pointer (some ⟨g, 0, none⟩), .int .i64 G], .bool true], .pointer (some ⟨g, 0, none⟩), .tuple #[.agg #[.pointer (some ⟨g, 0, none⟩), .int .i64 G], .bool true], .agg #[.pointer (some ⟨g, 0, none⟩), .int .i64 G], .bool true, .bool true, .bool false, undef, undef, undef, undef, undef, .agg #[.pointer (some ⟨g, 0, none⟩), .int .i64 G], .agg #[.pointer (some ⟨g, 0, none⟩), .int .i64 G, .slice none 0 0, .int .i64 0, .bool false], .pointer (some ⟨w1.heap.size + 1, 0, none⟩), .agg #[.pointer (some ⟨g, 0, none⟩), .int .i64 G], .func (.func 103) #[] #[.pointer (some ⟨w1.heap.size + 1 + 1 + 1, 0, none⟩)], x.val, undef, undef, undef, undef], defers := [] }) ?assign ?body ?done
  case assign =>
    intro l x U K hK'
    gi_wp2
    exact hK'
  case body =>
    rintro l pre x U ⟨v, hoi⟩ hx
    have h6 := hoi.c6
    have HO := Lib.hid hoi
    have HX := Lib.hid hx
    have HA := Lib.hid (add_any U V.heap.size (w1.heap.size + 1) g gs gm d ⟨G, pre.map It.xs, false⟩ v x hoi.jn hx.1 hx.2)
    unfold ptr at HA
    clear hoi hx
    generalize x.val = xv at *
    gi_wp2
    refine ⟨trivial, (CallsIn.inRound l (callsIn_wide.2 HA.out)).mono ?_⟩
    rintro e W3 ⟨rfl, v', hjn, ht, hv⟩
    have HR := Lib.hid (And.intro hjn (And.intro ht hv))
    clear hjn ht hv h6
    gi_wp2
    exact round_open HO.out HR.out.1 HR.out.2.1 ⟨HLS.out _ (by simp), by omega⟩ ⟨HKK.out, by omega⟩ ⟨HJW.out, HVW.out⟩
  case done =>
    rintro D ys U hD hS ⟨v, hoi⟩ hK'
    have h6 := hoi.c6
    have HO := Lib.hid hoi
    have HS9 := Lib.hid hS
    clear hoi hS
    gi_wp2
    refine ⟨by simp, .inl ⟨_, _, rfl, run_takeDeferred hK', ?_⟩⟩
    refine ⟨_, results_tmp2 rfl _ _ _, ?_⟩
    have hfin := HO.out.fin hD hK' HVW.out
    rw [HS9.out, HGG.out] at hfin
    rw [HDK.out]
    exact ⟨_, _, v, rfl, hfin.1, hfin.2, HJW.out⟩
theorem three_new (w : World) (a b c : Obj) : Below w.heap.size w (((w.alloc a).alloc b).alloc c) ∧ (((w.alloc a).alloc b).alloc c).heap[w.heap.size]? = some a ∧ (((w.alloc a).alloc b).alloc c).heap[w.heap.size + 1]? = some b ∧ (((w.alloc a).alloc b).alloc c).heap[w.heap.size + 1 + 1]? = some c := by
  have h1 := heap_alloc_new w a
  have h2 := heap_alloc_new (w.alloc a) b
  have h3 := heap_alloc_new ((w.alloc a).alloc b) c
  simp only [World.size_alloc] at h2 h3
  have k : ∀ (u : World) (o : Obj) (i : Nat), i < u.heap.size → (u.alloc o).heap[i]? = u.heap[i]? := fun u o i hi => Below.heap_alloc u o i hi
  refine ⟨((Below.refl _ w).alloc (Nat.le_refl _) _).alloc (by simp) _ |>.alloc (by simp <;> omega) _, ?_, ?_, h3⟩
  · rw [k _ _ _ (by simp <;> omega), k _ _ _ (by simp)]
    exact h1
  · rw [k _ _ _ (by simp)]
    exact h2
/-- What an Open that is not leaves. -/
def Unopened (w : World) (g gs gm : Nat) (d : Dsk) (e : Ending) (w' : World) : Prop := e = .returned (.tuple #[.pointer none, .int .i64 3]) ∧ Dk w' g gs gm d ∧ Turn [g, gs, gm] w w'
set_option maxHeartbeats 4000000 in
theorem open_new (w : World) (g gs gm : Nat) (d : Dsk) (h : Dk w g gs gm d) (h8 : 8 ≤ d.n) (ho : d.off = false) (hn : newest (rd d) = 0) :
    Calls Tryz.prog 13 #[ptr g] w (fun e w' => (openB d = true ∧ Opened w g gs gm (openD d) (openJ d) e w') ∨ (openB d = false ∧ Unopened w g gs gm (openD d) e w')) := by
  have HS := Lib.hid (Disk.sectors_disk w g gs gm d h)
  have HD := Lib.hid (Disk.down_disk w g gs gm d h)
  have HN := Lib.hid (newest_any w g gs gm d h ho)
  have HGF := Lib.hid (fun u G => groups_fn u g G)
  have HBG := Lib.hid (fun u hu => begin_any u g gs gm d 1 0 0 none [] hu (by omega) (by omega) Frm.Rows.none_ (by simp) (by simp [takes]))
  have h8i : 8 ≤ (d.n : Int) := by omega
  have hnb : newB (rd d) = false := by unfold newB; simp; omega
  have HDN : Hid (openD d = beginD d 1 []) := Lib.hid (by unfold openD; rw [if_pos hn])
  have HBB : Hid (openB d = beginB d 1 []) := Lib.hid (by unfold openB; rw [if_pos hn])
  have HGG : Hid ((⟨1, groups (rd (beginD d 1 [])) (beginD d 1 []).n 1, false⟩ : Jr) = openJ d) := Lib.hid (by unfold openJ; rw [HDN.out, beginD_n]; unfold openG; rw [if_pos hn])
  have HOF : Hid (beginB d 1 [] = true → (beginD d 1 []).off = false) := Lib.hid (fun hb => beginB_on hb)
  have HDL : Hid ((beginD d 1 []).n = d.n) := Lib.hid (beginD_n d 1 [])
  have HDW := Lib.hid h
  have hz : ((0 : Nat) : Int) = 0 := rfl
  have hz1 : ((1 : Nat) : Int) = 1 := rfl
  have hL := Dk.lows h
  have HLW := Lib.hid hL
  rw [hn, hz, hnb] at HN
  rw [ho] at HD
  generalize beginB d 1 [] = kb at *
  generalize beginD d 1 [] = d1 at *
  unfold hv at HGF HBG
  rw [hz1] at HBG
  unfold hbox ptr at *
  refine (callsIn_wide (n := 5)).1 ?_
  refine callsIn_of_wp_marks Tryz.func13 rfl trivial ?_ rfl
  simp only [Tryz.ntmps13, List.size_toArray, List.length_cons, List.length_nil, Nat.reduceAdd, Nat.reduceSub, Array.replicate_succ, Array.replicate_zero, List.push_toArray, List.append_toArray, List.nil_append, List.cons_append]
  clear h hn hnb ho hz hz1 hL
  gi_wp2
  refine ⟨trivial, (callsIn_wide.2 HS.out).mono ?_⟩
  rintro e w1 ⟨rfl, rfl⟩
  gi_wp2
  refine ⟨trivial, (callsIn_wide.2 HD.out).mono ?_⟩
  rintro e w1 ⟨rfl, rfl⟩
  gi_wp2
  refine ⟨trivial, (callsIn_wide.2 HN.out).mono ?_⟩
  rintro e w1 ⟨rfl, hb1⟩
  have HB1 := Lib.hid hb1
  clear hb1
  gi_wp2
  have hk4 := heap_alloc_new w1 (.cells #[.pointer (some ⟨g, 0, none⟩), .int .i64 1] 105)
  have hba := Frm.alloc_below w1 (.cells #[.pointer (some ⟨g, 0, none⟩), .int .i64 1] 105)
  have HW2 := Lib.hid (HB1.out.trans (hba.mono HB1.out.size))
  have hdw := Dk.below (Dk.below HDW.out HB1.out) hba
  have HAP := Lib.hid (apart_disk hdw hk4 (by decide) (by simp))
  have HK4 := Lib.hid hk4
  have HDD := Lib.hid hdw
  clear hk4 hba hdw
  refine ⟨trivial, (callsIn_wide.2 (HBG.out _ HDD.out)).mono ?_⟩
  rintro e w2 ⟨rfl, hdk, ht⟩
  have HDK := Lib.hid hdk
  have HTT := Lib.hid ht
  have HB4 := Lib.hid ((ht.block _ (lt_of_heap HK4.out) HAP.out).trans HK4.out)
  clear hdk ht HBG
  generalize w1.alloc (.cells #[.pointer (some ⟨g, 0, none⟩), .int .i64 1] 105) = W1 at *
  rcases Bool.eq_false_or_eq_true kb with hkb | hkb
  · have HKB := Lib.hid hkb
    rw [hkb]
    clear hkb
    have he : err true = 0 := rfl
    rw [he]
    clear he
    have hlt4 : w1.heap.size < w2.heap.size := lt_of_heap HB4.out
    have b0 := box0 HB4.out
    have b1 : w2.cell? ⟨w1.heap.size, 1, none⟩ = some (.int .i64 1) := cell_at HB4.out 1
    have HGF1 : Hid (∀ u, Calls Tryz.prog 55 #[.agg #[.pointer (some ⟨g, 0, none⟩), .int .i64 1]] u fun e w' => e = .returned (.func (.func 103) #[] #[.pointer (some ⟨u.heap.size, 0, none⟩)]) ∧ w' = u.alloc (.cells #[.pointer (some ⟨g, 0, none⟩), .int .i64 1] 105)) := Lib.hid (fun u => HGF.out u 1)
    gi_wp2
    refine ⟨trivial, (callsIn_wide.2 (HGF1.out _)).mono ?_⟩
    rintro e w3 ⟨rfl, rfl⟩
    gi_wp2
    have HV := Lib.hid (three_new w2 (.cells #[.pointer (some ⟨g, 0, none⟩), .int .i64 1, .slice none 0 0, .int .i64 0, .bool false] 109) (.cells #[.pointer (some ⟨w2.heap.size, 0, none⟩)] 33) (.cells #[.pointer (some ⟨g, 0, none⟩), .int .i64 1] 105))
    generalize hV : ((w2.alloc (.cells #[.pointer (some ⟨g, 0, none⟩), .int .i64 1, .slice none 0 0, .int .i64 0, .bool false] 109)).alloc (.cells #[.pointer (some ⟨w2.heap.size, 0, none⟩)] 33)).alloc (.cells #[.pointer (some ⟨g, 0, none⟩), .int .i64 1] 105) = V at *
    clear hV
    obtain ⟨v0, v2, v3, v4⟩ := HV.out
    have HJW : Hid (w.heap.size ≤ w2.heap.size) := Lib.hid (by have := HW2.out.size; have := HTT.out.size; omega)
    have HVW : Hid (w.heap.size ≤ V.heap.size) := Lib.hid (by have := HJW.out; have := v0.size; omega)
    have HOI : Hid (OI w V V V.heap.size (w2.heap.size) (w2.heap.size + 1) g gs gm 1 d1 [] (.slice none 0 0)) := Lib.hid ⟨jn_new (Dk.below HDK.out v0) v2 (by rw [HDL.out]; exact h8) (by omega) (by omega), v3, ((Turn.ofBelow (S := [g, gs, gm]) HW2.out).trans HTT.out).trans (Turn.ofBelow v0)⟩
    have HBK : Hid (V.heap[w2.heap.size + 1 + 1]? = some (hbox g 1)) := Lib.hid v4
    have HOFF := Lib.hid (HOF.out HKB.out)
    have HLS : Hid (∀ x ∈ [w2.heap.size + 1 + 1, g, gs, gm], x < V.heap.size) := Lib.hid (fun x hx => by
      rcases List.mem_cons.1 hx with rfl | hx
      · exact lt_of_heap HBK.out
      · exact Dk.lows HOI.out.jn.disk x hx)
    have HKK : Hid (w2.heap.size + 1 < V.heap.size) := Lib.hid (lt_of_heap v3)
    clear v0 v2 v3 v4
    refine wpIn_range_told (gf := 103) (lb := #[.pointer (some ⟨w2.heap.size + 1 + 1, 0, none⟩)]) rfl (enters_of Tryz.func103 (by kernel_rfl) rfl) (fun x : It => #[x.val]) (Fg V.heap.size (room d1.n)) (Kg (w2.heap.size + 1 + 1) g gs gm) (fun xs => xs.map It.xs = groups (rd d1) d1.n 1)
      (groups_tells 4 _ g gs gm _ _ V HBK.out HOI.out.jn.disk HOFF.out (by have := HOI.out.jn.n8; omega) (by omega) V.heap.size (Nat.le_refl _)) (fun _ => rfl)
      (fun h k => ⟨fun x hx => (k.1 x hx).trans (h.1 x hx), Nat.le_trans h.2 k.2⟩)
      (fun U l o o' hl ho _ => ⟨fun x hx => World.putObj_heap_other (by have := HLS.out x hx; omega), by simp [World.putObj]⟩)
      (fun pre x U l o o' hx ho hc => ⟨hx.1.put ho hc, hx.2⟩)
      (fun pre U => ∃ v, OI w V U V.heap.size (w2.heap.size) (w2.heap.size + 1) g gs gm 1 d1 pre v) (OI.own HVW.out) ⟨_, HOI.out⟩
      (fun x => { tmps := #[.pointer (some ⟨g, 0, none⟩), undef, .pointer none, .int .i64 0, .pointer (some ⟨w1.heap.size, 0, none⟩), .bool false, .pointer (some ⟨w2.heap.size + 1, 0, none⟩), x.val, .pointer (some ⟨g, 0, none⟩), .int .i64 d.n, .bool (decide ((d.n : Int) < 8)), .pointer (some ⟨g, 0, none⟩), .bool false, .tuple #[.agg #[.pointer (some ⟨g, 0, none⟩), .int .i64 0], .bool false], .pointer (some ⟨g, 0, none⟩), .tuple #[.agg #[.pointer (some ⟨g, 0, none⟩), .int .i64 0], .bool false], .agg #[.pointer (some ⟨g, 0, none⟩), .int .i64 0], .bool false, .bool false, .bool true, .pointer (some ⟨g, 0, none⟩), .agg #[.pointer (some ⟨g, 0, none⟩), .int .i64 1], .agg #[.pointer (some ⟨g, 0, none⟩), .int .i64 1], .int .i64 0, .bool false, .agg #[.pointer (some ⟨g, 0, none⟩), .int .i64 1], .agg #[.pointer (some ⟨g, 0, none⟩), .int .i64 1, .slice none 0 0, .int .i64 0, .bool false], .pointer (some ⟨w2.heap.size, 0, none⟩), .agg #[.pointer (some ⟨g, 0, none⟩), .int .i64 1], .func (.func 103) #[] #[.pointer (some ⟨w2.heap.size + 1 + 1, 0, none⟩)], x.val, undef, undef, undef, undef], defers := [] }) ?assign ?body ?done
    case assign =>
      intro l x U K hK'
      gi_wp2
      exact hK'
    case body =>
      rintro l pre x U ⟨v, hoi⟩ hx
      have h6 := hoi.c6
      have HO := Lib.hid hoi
      have HX := Lib.hid hx
      have HA := Lib.hid (add_any U V.heap.size (w2.heap.size) g gs gm d1 ⟨1, pre.map It.xs, false⟩ v x hoi.jn hx.1 hx.2)
      unfold ptr at HA
      clear hoi hx
      generalize x.val = xv at *
      gi_wp2
      refine ⟨trivial, (CallsIn.inRound l (callsIn_wide.2 HA.out)).mono ?_⟩
      rintro e W3 ⟨rfl, v', hjn, ht, hv⟩
      have HR := Lib.hid (And.intro hjn (And.intro ht hv))
      clear hjn ht hv h6
      gi_wp2
      exact round_open HO.out HR.out.1 HR.out.2.1 ⟨HLS.out _ (by simp), by omega⟩ ⟨HKK.out, by omega⟩ ⟨HJW.out, HVW.out⟩
    case done =>
      rintro D ys U hD hS ⟨v, hoi⟩ hK'
      have h6 := hoi.c6
      have HO := Lib.hid hoi
      have HS9 := Lib.hid hS
      clear hoi hS
      gi_wp2
      refine ⟨by simp, .inl ⟨_, _, rfl, run_takeDeferred hK', ?_⟩⟩
      refine ⟨_, results_tmp2 rfl _ _ _, ?_⟩
      have hfin := HO.out.fin hD hK' HVW.out
      rw [HS9.out, HGG.out] at hfin
      rw [HDN.out, HBB.out]
      exact .inl ⟨HKB.out, _, _, v, rfl, hfin.1, hfin.2, HJW.out⟩
  · have HKB := Lib.hid hkb
    rw [hkb]
    clear hkb
    have he : err false = 3 := rfl
    rw [he]
    clear he
    gi_wp2
    refine ⟨_, results_tmp2 rfl _ _ _, ?_⟩
    rw [HDN.out, HBB.out]
    exact .inr ⟨HKB.out, rfl, HDK.out, (Turn.ofBelow (S := [g, gs, gm]) HW2.out).trans HTT.out⟩
end Go.Proofs.YtdjhlhellkajfaaGreat.Jou
/-
  The program's size and Pack of an entry. Condition: key and value have at most 900000000 bytes.
-/
namespace Go.Proofs.YtdjhlhellkajfaaGreat.Cch
open Go.RowKit Codec Cod
set_option maxRecDepth 100000
def entV (e : Ent) : Value := .agg #[.string e.k, .string e.v]
theorem size_any (w : World) (e : Ent) (h : e.k.size + e.v.size ≤ 900000000) : Calls Tryz.prog 81 #[entV e] w (EndsBelow (.int .i64 (sizeE e)) w) := by
  obtain ⟨k, v⟩ := e
  dsimp only at h
  have hw1 : IntKind.i64.wrap (8 + (k.size : Int)) = 8 + (k.size : Int) := IntWalk.i64_in _ (by omega)
  have hw2 : IntKind.i64.wrap (8 + (k.size : Int) + (v.size : Int)) = 8 + (k.size : Int) + (v.size : Int) := IntWalk.i64_in _ (by omega)
  have hs : ((sizeE ⟨k, v⟩ : Nat) : Int) = 8 + (k.size : Int) + (v.size : Int) := by unfold sizeE; push_cast; rfl
  rw [hs]
  unfold entV
  clear hs h
  go_enter Tryz.func81, Tryz.ntmps81
  go_wp2_with fail
  go_ret
  exact ⟨rfl, Frm.alloc_below _ _⟩
theorem run_make_cap (w : World) (K : Nat) (hK : K ≤ 1000000000) : (Instr.makeSlice 39 (.int .i64 0) (.int .i64 K)).run Tryz.prog w = .ok (.slice (some ⟨w.heap.size, 0, none⟩) 0 K) (w.alloc (.cells (cel (FrameM.zeros K)).toArray 5)) := by
  obtain ⟨i0, hi, hz0, hz1, hz2⟩ := info_parts info5
  have := run_make (P := Tryz.prog) w 39 5 i0 _ Tryz.underlying39 hi hz0 .i64 .i64 0 K (by omega) (by omega) (by rw [hz2]; omega) (by omega)
  rw [hz1] at this
  simpa [Frm.made] using this
theorem app_k (w : World) {ops : Array Oper} {rest : List Oper} {o : Oper} {a : Act} {Q : Exit → Act → World → Prop} (hgd : o.guard = none) (s x : Operand)
    (ho : o.op = .call { callee := .builtin .append, args := #[s, x], argTypes := #[39, 39] })
    (base : Nat) (v : Value) (n : Nat) (xs : List UInt8) (hs : a.eval s = v) (hown : Owns w base v n xs) (B : Nat) (A : Option Addr) (m c : Nat) (ys : List UInt8) (hx : a.eval x = .slice A m c) (hr : Byts w B A m ys)
    (k : Nat) (hk : n + m = k) (hn : k ≤ 1000000000) (hbase : base ≤ w.heap.size)
    (h : ∀ A' c' w', Owns w' base (.slice A' k c') k (xs ++ ys) → w.grownBy w' v.ownBlock → wpList Tryz.prog ops Q rest (a.put o.dst (.slice A' k c')) w') : wpList Tryz.prog ops Q (o :: rest) a w := by
  subst hk
  exact wpList_app w hgd s x ho base v n xs hs hown B A m c ys hx hr hn hbase h
theorem app_str_k (w : World) {ops : Array Oper} {rest : List Oper} {o : Oper} {a : Act} {Q : Exit → Act → World → Prop} (hgd : o.guard = none) (sl x : Operand)
    (ho : o.op = .call { callee := .builtin .append, args := #[sl, x], argTypes := #[39, 9] })
    (base : Nat) (v : Value) (n : Nat) (xs : List UInt8) (hs : a.eval sl = v) (hown : Owns w base v n xs) (s : ByteArray) (hx : a.eval x = .string s)
    (k : Nat) (hk : n + s.size = k) (hn : k ≤ 1000000000) (hbase : base ≤ w.heap.size)
    (h : ∀ A' c' w', Owns w' base (.slice A' k c') k (xs ++ bytesOf s) → w.grownBy w' v.ownBlock → wpList Tryz.prog ops Q rest (a.put o.dst (.slice A' k c')) w') : wpList Tryz.prog ops Q (o :: rest) a w := by
  subst hk
  exact wpList_app_str w hgd sl x ho base v n xs hs hown s hx hn hbase h
/-- What an append onto a row of the call's own leaves of a block that is not that row. -/
theorem own_side {w w1 : World} {g : Nat} {o : Obj} {v : Value} (hg : w.grownBy w1 v.ownBlock) (h : w.heap[g]? = some o) (hne : ∀ q, v.ownBlock = some q → g < q) : w1.heap[g]? = some o :=
  (hg.block g (lt_of_heap h) (fun e => by have := hne g e.symm; omega)).trans h
set_option maxHeartbeats 1000000 in
theorem pack_any (w : World) (e : Ent) (h : e.k.size + e.v.size ≤ 900000000) : Calls Tryz.prog 35 #[entV e] w (Cloned w (sizeE e) (packE e)) := by
  have HSZ := Lib.hid (fun u => size_any u e h)
  have HPE : Hid (packE e = encNum (e.k.size : Int) ++ bytesOf e.k ++ bytesOf e.v) := Lib.hid (by unfold packE; rw [List.append_assoc])
  have HSE : Hid (sizeE e = 8 + e.k.size + e.v.size ∧ e.k.size + e.v.size ≤ 900000000) := Lib.hid ⟨rfl, h⟩
  have HK : Hid (sizeE e ≤ 1000000000) := Lib.hid (by unfold sizeE; omega)
  have HMK := Lib.hid (fun u => run_make_cap u (sizeE e) HK.out)
  rw [HPE.out]
  obtain ⟨k, v⟩ := e
  unfold entV at *
  dsimp only at *
  generalize sizeE ⟨k, v⟩ = N at *
  have HNW := Lib.hid (Jou.three_new w (.cells #[.string k, .string v] 62) (.cells #[.slice none 0 0] 140) (.cells #[.int .i64 (k.size : Int)] 2))
  clear h HPE
  go_enter Tryz.func35, Tryz.ntmps35
  go_wp2_with fail
  refine (num_some _ (w.heap.size + 1) (w.heap.size + 1) (w.heap.size + 1 + 1) (k.size : Int) [] ⟨none, 0, 0, HNW.out.2.2.1, Owns.nil, Nat.le_refl _⟩ (by simp) (by simp) (cell_at HNW.out.2.2.2 0)).mono ?_
  rintro e w1 ⟨rfl, hw1, hb1⟩
  rw [List.nil_append] at hw1
  have HB1 : Hid (Below w.heap.size w w1) := Lib.hid (HNW.out.1.trans (hb1.mono (by omega)))
  have HX1 : Hid (w1.heap[w.heap.size]? = some (.cells #[.string k, .string v] 62)) := Lib.hid ((hb1.block _ (by omega)).trans HNW.out.2.1)
  have HW1 := Lib.hid hw1
  have c0 := cell_at HX1.out 0
  have c1 := cell_at HX1.out 1
  clear hw1 hb1 HNW
  go_wp2_with fail
  refine (HSZ.out w1).mono ?_
  rintro e w2 ⟨rfl, hb2⟩
  have hmk := HMK.out w2
  have HB2 := Lib.hid (HB1.out.trans (hb2.mono HB1.out.size))
  have HX2 := Lib.hid ((hb2.block _ (lt_of_heap HX1.out)).trans HX1.out)
  have HW2 : Hid (Wr w2 (w.heap.size + 1) (w.heap.size + 1) (encNum (k.size : Int))) := Lib.hid (by
    obtain ⟨A, n, c, h1, h2, h3⟩ := HW1.out
    exact ⟨A, n, c, (hb2.block _ (lt_of_heap h1)).trans h1, h2.below hb2, h3⟩)
  clear hb2 c0 c1 HX1 HW1 HSZ HMK
  go_upto_region 4 with fail
  have HO3 : Hid (Owns (w2.alloc (.cells (cel (FrameM.zeros N)).toArray 5)) (w.heap.size + 1) (.slice (some ⟨w2.heap.size, 0, none⟩) 0 N) 0 []) := Lib.hid (World.ownsRow_made w2 (cel (FrameM.zeros N)).toArray N (by have := lt_of_heap HX2.out; omega) (by unfold maxLen; have := HK.out; omega) (by simp [cel, FrameM.zeros]))
  have HX3 : Hid ((w2.alloc (.cells (cel (FrameM.zeros N)).toArray 5)).heap[w.heap.size]? = some (.cells #[.string k, .string v] 62)) := Lib.hid ((Below.heap_alloc w2 _ _ (lt_of_heap HX2.out)).trans HX2.out)
  have HB3 : Hid (Below w.heap.size w (w2.alloc (.cells (cel (FrameM.zeros N)).toArray 5))) := Lib.hid (HB2.out.alloc HB2.out.size _)
  have HBY := Lib.hid (bytes_some (w2.alloc (.cells (cel (FrameM.zeros N)).toArray 5)) (w.heap.size + 1) (w.heap.size + 1) (encNum (k.size : Int)) (by
    obtain ⟨A, n, c, h1, h2, h3⟩ := HW2.out
    exact ⟨A, n, c, (Below.heap_alloc w2 _ _ (lt_of_heap h1)).trans h1, h2.alloc _, h3⟩) (by rw [encNum_length]; omega))
  rw [encNum_length] at HBY
  clear hmk HX2 HB2 HW2
  generalize w2.alloc (.cells (cel (FrameM.zeros N)).toArray 5) = w3 at *
  generalize w2.heap.size = g3 at *
  go_wp2_with fail
  refine HBY.out.mono ?_
  rintro e w4 ⟨A4, c4, rfl, ho4, hb4⟩
  have HB4 := Lib.hid (HB3.out.trans (hb4.mono HB3.out.size))
  have HX4 := Lib.hid ((hb4.block _ (lt_of_heap HX3.out)).trans HX3.out)
  have HO4 := Lib.hid (HO3.out.below hb4)
  have HY4 := Lib.hid ho4.byts
  have HL4 : Hid (w.heap.size + 1 ≤ w4.heap.size) := Lib.hid (lt_of_heap HX4.out)
  clear ho4 hb4 HBY HX3 HB3 HO3
  go_upto_region 5 with (at_builtin; refine app_k _ rfl (.tmp 13) (.tmp 14) rfl (w.heap.size + 1) (.slice (some ⟨g3, 0, none⟩) 0 N) 0 [] rfl HO4.out w4.heap.size A4 8 c4 (encNum (k.size : Int)) rfl HY4.out 8 rfl (by omega) HL4.out ?_; intro A5 c5 w5 ho5 hg5)
  have HB5 := Lib.hid (HB4.out.trans ((HO4.out.lower (by omega)).below_own HB4.out.size hg5))
  have HX5 := Lib.hid (own_side hg5 HX4.out (fun q hq => by have := (World.ownsRow.lt HO4.out q hq).1; omega))
  have HO5 := Lib.hid ho5
  have HL5 : Hid (w.heap.size + 1 ≤ w5.heap.size) := Lib.hid (lt_of_heap HX5.out)
  have c0 := cell_at HX5.out 0
  clear ho5 hg5 HB4 HX4 HO4 HY4 HL4
  go_upto_region 6 with (at_builtin; refine app_str_k _ rfl (.tmp 16) (.tmp 18) rfl (w.heap.size + 1) (.slice A5 8 c5) 8 ([] ++ encNum (k.size : Int)) rfl HO5.out k rfl (8 + k.size) rfl (by have := HSE.out; omega) HL5.out ?_; intro A6 c6 w6 ho6 hg6)
  have HB6 := Lib.hid (HB5.out.trans ((HO5.out.lower (by omega)).below_own HB5.out.size hg6))
  have HX6 := Lib.hid (own_side hg6 HX5.out (fun q hq => by have := (World.ownsRow.lt HO5.out q hq).1; omega))
  have HO6 := Lib.hid ho6
  have HL6 : Hid (w.heap.size + 1 ≤ w6.heap.size) := Lib.hid (lt_of_heap HX6.out)
  have c1 := cell_at HX6.out 1
  clear ho6 hg6 HB5 HX5 HO5 HL5 c0
  go_wp2_with (at_builtin; refine app_str_k _ rfl (.tmp 20) (.tmp 22) rfl (w.heap.size + 1) (.slice A6 (8 + k.size) c6) (8 + k.size) ([] ++ encNum (k.size : Int) ++ bytesOf k) rfl HO6.out v rfl N (by have := HSE.out; omega) HK.out HL6.out ?_; intro A7 c7 w7 ho7 hg7)
  have HB7 := Lib.hid (HB6.out.trans ((HO6.out.lower (by omega)).below_own HB6.out.size hg7))
  have HO7 := Lib.hid ho7
  clear ho7 hg7 HB6 HX6 HO6 HL6 c1
  go_ret
  exact ⟨A7, c7, rfl, by simpa using HO7.out.lower (by omega), HB7.out⟩
end Go.Proofs.YtdjhlhellkajfaaGreat.Cch
/-
  The document's Pack. Condition: the texts fit.
-/
namespace Go.Proofs.YtdjhlhellkajfaaGreat.Cch
open Go.RowKit Codec Cod
set_option maxRecDepth 100000
section
variable {ops : Array Oper} {Q : Exit → Act → World → Prop} {md : Region.Mode} {S : World → Prop} {fuel : Nat} {listed : Array Bool} {a : Act} {w : World}
theorem wh_appstr (i d : Nat) {oi : Oper} (hi : ops[i]? = some oi) (hd : oi.dst = some d) (hr : Region.ready md ops listed = [i]) (hw : Region.wanted oi (yielded ops a.tmps) = true)
    (sl x : Operand) (ho : oi.op = .call { callee := .builtin .append, args := #[sl, x], argTypes := #[39, 9] })
    (base : Nat) (v : Value) (n : Nat) (xs : List UInt8) (hs : a.eval sl = v) (hown : Owns w base v n xs) (s : ByteArray) (hx : a.eval x = .string s) (hn : n + s.size ≤ 1000000000) (hbase : base ≤ w.heap.size)
    (h : ∀ A' c' w', Owns w' base (.slice A' (n + s.size) c') (n + s.size) (xs ++ bytesOf s) → w.grownBy w' v.ownBlock → S w' ∧ wpAnyH Tryz.prog md ops Q S fuel (listed.setIfInBounds i true) (a.put (some d) (.slice A' (n + s.size) c')) w') :
    wpAnyH Tryz.prog md ops Q S (fuel + 1) listed a w := by
  obtain ⟨A', c', w', hrun, h2, h3⟩ := run_app_str w oi.type base v n xs hown s hn hbase
  obtain ⟨k1, k2⟩ := h A' c' w' h2 h3
  refine Frm.wh_run i d _ w' hi hd hr hw ?_ k1 k2
  unfold execOp
  simp only [ho, resolve, invoke, builtin, Sem.run_bind, Sem.run_pure, Result.andThen_ok, List.map_toArray, List.map_cons, List.map_nil, hs, hx, hrun]
end
set_option maxHeartbeats 2000000 in
theorem rpack_any (w : World) (e : Ent) (h : e.k.size + e.v.size ≤ 900000000) : Calls Tryz.prog 36 #[entV e] w (Cloned w (sizeE e) (packE e)) := by
  have HPE : Hid (packE e = encNum (e.k.size : Int) ++ bytesOf e.k ++ bytesOf e.v) := Lib.hid (by unfold packE; rw [List.append_assoc])
  have HSE : Hid (sizeE e = 8 + e.k.size + e.v.size) := Lib.hid rfl
  have HK := Lib.hid h
  rw [HPE.out, HSE.out]
  clear HPE HSE h
  obtain ⟨k, v⟩ := e
  unfold entV
  dsimp only at *
  go_enter Tryz.func36, Tryz.ntmps36
  go_upto_region 1 with fail
  have HS : Hid ((w.alloc (.cells #[.string k, .string v] 61 (0, 0))).drew.heap[w.heap.size]? = some (.cells #[.string k, .string v] 61 (0, 0))) := Lib.hid (heap_alloc_new w _)
  have HB0 : Hid (Below w.heap.size w (w.alloc (.cells #[.string k, .string v] 61 (0, 0))).drew) := Lib.hid (Frm.alloc_below w _).drew
  have HL0 : Hid (w.heap.size + 1 ≤ (w.alloc (.cells #[.string k, .string v] 61 (0, 0))).drew.heap.size) := Lib.hid (by show w.heap.size + 1 ≤ (w.alloc (.cells #[.string k, .string v] 61 (0, 0))).heap.size; rw [World.size_alloc]; exact Nat.le_refl _)
  refine Frm.wh_start (fun u => u.heap[w.heap.size]? = some (.cells #[.string k, .string v] 61 (0, 0))) (by kernel_rfl) ?_
  generalize (w.alloc (.cells #[.string k, .string v] 61 (0, 0))).drew = u0 at *
  refine Frm.wh_take 0 3 (.pointer (some ⟨w.heap.size, 0, none⟩)) rfl rfl (by kernel_rfl) (fun _ _ _ h => h) rfl (HS.out) (fun w' hw' => ?_) ?_
  · go_simp
  go_frame
  refine Frm.wh_take 1 4 (.string k) rfl rfl (by kernel_rfl) (fun _ _ _ h => h) rfl (HS.out) (fun w' hw' => ?_) ?_
  · have h1 := cell_at hw' 0
    go_simp
  go_frame
  refine Frm.wh_take 2 5 (.int .i64 k.size) rfl rfl (by kernel_rfl) (fun _ _ _ h => h) rfl (HS.out) (fun w' hw' => ?_) ?_
  · go_simp
  go_frame
  refine Frm.wh_take 4 7 (.pointer (some ⟨w.heap.size, 0, none⟩)) rfl rfl (by kernel_rfl) (fun _ _ _ h => h) rfl (HS.out) (fun w' hw' => ?_) ?_
  · go_simp
  go_frame
  refine Frm.wh_take 5 8 (.string k) rfl rfl (by kernel_rfl) (fun _ _ _ h => h) rfl (HS.out) (fun w' hw' => ?_) ?_
  · have h1 := cell_at hw' 0
    go_simp
  go_frame
  refine Frm.wh_take 7 10 (.pointer (some ⟨w.heap.size, 1, none⟩)) rfl rfl (by kernel_rfl) (fun _ _ _ h => h) rfl (HS.out) (fun w' hw' => ?_) ?_
  · go_simp
  go_frame
  refine Frm.wh_take 8 11 (.string v) rfl rfl (by kernel_rfl) (fun _ _ _ h => h) rfl (HS.out) (fun w' hw' => ?_) ?_
  · have h1 := cell_at hw' 1
    go_simp
  go_frame
  refine Frm.wh_call 3 6 83 #[.slice none 0 0, .int .i64 k.size] rfl rfl (by kernel_rfl) rfl ?_ ?_
  · go_simp
  refine (ref_num u0 (w.heap.size + 1) 0 0 none (k.size : Int) [] Owns.nil (by omega) HL0.out).mono ?_
  rintro e w1 ⟨A1, m1, c1, rfl, ho1, hb1⟩
  rw [List.nil_append] at ho1
  have hm1 : m1 = 8 := by have := ho1.len; rw [encNum_length] at this; omega
  subst hm1
  have HO1 := Lib.hid ho1
  have HB1 := Lib.hid (HB0.out.trans (hb1.mono (by have := HL0.out; omega)))
  have HS1 := Lib.hid ((hb1.block _ (by omega)).trans HS.out)
  have HL1 : Hid (w.heap.size + 1 ≤ w1.heap.size) := Lib.hid (Nat.le_trans HL0.out hb1.size)
  clear ho1 hb1 HS HB0 HL0
  have HS := HS1
  clear HS1
  refine ⟨_, rfl, HS.out, ?_⟩
  go_frame
  refine wh_appstr 6 9 rfl rfl (by kernel_rfl) rfl (.tmp 6) (.tmp 8) rfl (w.heap.size + 1) (.slice A1 8 c1) 8 (encNum (k.size : Int)) rfl HO1.out k rfl (by have := HK.out; omega) HL1.out ?_
  intro A2 c2 w2 ho2 hg2
  have HB2 := Lib.hid (HB1.out.trans ((HO1.out.lower (by omega)).below_own HB1.out.size hg2))
  have HS2 := Lib.hid (own_side hg2 HS.out (fun q hq => by have := (World.ownsRow.lt HO1.out q hq).1; omega))
  have HO2 := Lib.hid ho2
  have HL2 : Hid (w.heap.size + 1 ≤ w2.heap.size) := Lib.hid (lt_of_heap HS2.out)
  clear ho2 hg2 HB1 HL1 HO1 HS
  have HS := HS2
  clear HS2
  refine ⟨HS.out, ?_⟩
  go_frame
  refine wh_appstr 9 12 rfl rfl (by kernel_rfl) rfl (.tmp 9) (.tmp 11) rfl (w.heap.size + 1) (.slice A2 (8 + k.size) c2) (8 + k.size) (encNum (k.size : Int) ++ bytesOf k) rfl HO2.out v rfl (by have := HK.out; omega) HL2.out ?_
  intro A3 c3 w3 ho3 hg3
  have HB3 := Lib.hid (HB2.out.trans ((HO2.out.lower (by omega)).below_own HB2.out.size hg3))
  have HS3 := Lib.hid (own_side hg3 HS.out (fun q hq => by have := (World.ownsRow.lt HO2.out q hq).1; omega))
  have HO3 := Lib.hid ho3
  have HL3 : Hid (w.heap.size + 1 ≤ w3.heap.size) := Lib.hid (lt_of_heap HS3.out)
  clear ho3 hg3 HB2 HL2 HO2 HS
  have HS := HS3
  clear HS3
  refine ⟨HS.out, ?_⟩
  go_frame
  refine Frm.wh_take 10 2 (.slice A3 ((8 + k.size) + v.size) c3) rfl rfl (by kernel_rfl) (fun _ _ _ h => h) rfl (HS.out) (fun w' hw' => ?_) ?_
  · exact rfl
  go_frame
  refine wpAnyH_done (by kernel_rfl) ?_ _
  have HBF := HB3
  go_wp2_with fail
  go_ret
  exact ⟨A3, c3, rfl, HO3.out.lower (by omega), HBF.out⟩
end Go.Proofs.YtdjhlhellkajfaaGreat.Cch
