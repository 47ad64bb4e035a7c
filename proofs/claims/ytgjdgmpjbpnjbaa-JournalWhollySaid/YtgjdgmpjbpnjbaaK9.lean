/-
  Texts JOpen, JOps, in one file. What each proves, and its conditions, stand at its head below.
-/
import Derived.Test.YtgjdgmpjbpnjbaaK8
/-
  What Open of a journal tells. Conditions: the disk is known.
-/
namespace Go.Proofs.Ytgjdgmpjbpnjbaa.Jou
open Go.RowKit Codec FrameM Cod JourM Go.Shelf
open Disk (Turn Dk Dsk ptr Now)
open Frm (Above U8)
set_option maxRecDepth 100000
attribute [local go_sem] Oper.semAt_some
theorem keepB_on {d : Dsk} {i : Nat} {l : List (List UInt8)} (h : keepB d i l = true) : (keepD d i l).off = false := by
  simp only [keepB, Bool.and_eq_true] at h
  unfold keepD
  rw [h.1, if_pos rfl, sy_go h.2]
  exact deed_go h.2
theorem beginB_on {d : Dsk} {gen : Nat} {l : List (List UInt8)} (h : beginB d gen l = true) : (beginD d gen l).off = false := by
  simp only [beginB, Bool.and_eq_true] at h
  unfold beginD
  rw [if_pos h.1]
  exact keepB_on h.2
theorem openB_on {d : Dsk} (h : openB d = true) (ho : d.off = false) : (openD d).off = false := by
  unfold openB at h
  unfold openD
  split at h
  · rename_i h0
    rw [if_pos h0]
    exact beginB_on h
  · rename_i h0
    rw [if_neg h0]
    exact ho
section
variable {w w' : World} {lo j g gs gm : Nat} {d : Dsk} {jr : Jr} {v : Value}
/-- What turns no cells, from lo on. -/
theorem Jn.quiet {row : Option Nat} (h : Jn w lo j g gs gm d jr v) (hg : w.grownBy w' row) (hr : ∀ r, row = some r → lo ≤ r ∧ ∃ o : Obj, w.heap[r]? = some o ∧ o.isCells = false) : Jn w' lo j g gs gm d jr v := by
  have ne : ∀ {k : Nat} {cs : Array Value} {T : TypeId} {fr : Nat × Nat}, w.heap[k]? = some (.cells cs T fr) → some k ≠ row := fun hk e => by
    obtain ⟨_, o, ho, hc⟩ := hr _ e.symm
    rw [hk] at ho
    cases ho
    cases hc
  have low : ∀ {k : Nat}, k < lo → some k ≠ row := fun hk e => by
    have := (hr _ e.symm).1
    omega
  obtain ⟨its, o1, o2, o3⟩ := h.own
  refine ⟨h.disk.keep (hg.block g h.disk.lt (low (h.lows g (by simp)))) (hg.block gs h.disk.sf.1 (low (h.lows gs (by simp)))) (hg.block gm h.disk.ltm (low (h.lows gm (by simp)))) hg.size, (hg.block j (lt_of_heap h.hd) (ne h.hd)).trans h.hd,
    ⟨its, own_same o1 fun r hr => ?_, o2, fun x hx => ?_⟩, h.lows, Nat.le_trans h.le hg.size, h.n8, h.one, h.big, h.fit⟩
  · obtain ⟨_, cur, hc⟩ := own_type o1 hr
    exact hg.block r (lt_of_heap hc) (ne hc)
  · have hx := o3 x hx
    have hb : ∀ p : Addr, x.A = some p → w'.heap[p.block]? = w.heap[p.block]? := fun p hp => by
      obtain ⟨cs, hc⟩ := hx.u8 p hp
      exact hg.block _ (lt_of_heap hc) (ne hc)
    refine ⟨⟨hx.byts.len, fun hn => ?_⟩, hx.mc, hx.cm, hx.ab, fun p hp => ?_⟩
    · obtain ⟨b, off, e, hl, hc⟩ := hx.byts.at_ hn
      have hbb := hb _ e
      exact ⟨b, off, e, Nat.lt_of_lt_of_le hl hg.size, fun i hi => (World.cell?_of_block (w := w) (a := ⟨b, off + i, none⟩) hbb).trans (hc i hi)⟩
    · obtain ⟨cs, hc⟩ := hx.u8 p hp
      exact ⟨cs, (hb p hp).trans hc⟩
end
theorem open_small (w : World) (g gs gm : Nat) (d : Dsk) (h : Dk w g gs gm d) (h8 : d.n < 8) : Calls Try.prog 8 #[ptr g] w (Disk.Ends (.tuple #[.pointer none, .int .i64 1]) w) := by
  have HS := Lib.hid (Disk.sectors_disk w g gs gm d h)
  have h8i : (d.n : Int) < 8 := by omega
  clear h
  unfold ptr at *
  refine (callsIn_wide (n := 5)).1 ?_
  refine callsIn_of_wp_marks Try.func8 rfl trivial ?_ rfl
  simp only [Try.ntmps8, List.size_toArray, List.length_cons, List.length_nil, Nat.reduceAdd, Nat.reduceSub, Array.replicate_succ, Array.replicate_zero, List.push_toArray, List.append_toArray, List.nil_append, List.cons_append]
  gi_wp2
  refine ⟨trivial, (callsIn_wide.2 HS.out).mono ?_⟩
  rintro e w1 ⟨rfl, rfl⟩
  gi_wp2
  exact ⟨_, results_tmp2 rfl _ _ _, rfl, rfl⟩
theorem open_none (w : World) : Calls Try.prog 8 #[.pointer none] w (Disk.Ends (.tuple #[.pointer none, .int .i64 1]) w) := by
  have HS := Lib.hid (Disk.sectors_none w (.pointer none) (.inl rfl))
  refine (callsIn_wide (n := 5)).1 ?_
  refine callsIn_of_wp_marks Try.func8 rfl trivial ?_ rfl
  simp only [Try.ntmps8, List.size_toArray, List.length_cons, List.length_nil, Nat.reduceAdd, Nat.reduceSub, Array.replicate_succ, Array.replicate_zero, List.push_toArray, List.append_toArray, List.nil_append, List.cons_append]
  gi_wp2
  refine ⟨trivial, (callsIn_wide.2 HS.out).mono ?_⟩
  rintro e w1 ⟨rfl, rfl⟩
  gi_wp2
  exact ⟨_, results_tmp2 rfl _ _ _, rfl, rfl⟩
theorem open_off (w : World) (g gs gm : Nat) (d : Dsk) (h : Dk w g gs gm d) (h8 : 8 ≤ d.n) (ho : d.off = true) : Calls Try.prog 8 #[ptr g] w (Disk.Ends (.tuple #[.pointer none, .int .i64 3]) w) := by
  have HS := Lib.hid (Disk.sectors_disk w g gs gm d h)
  have HD := Lib.hid (Disk.down_disk w g gs gm d h)
  rw [ho] at HD
  have h8i : 8 ≤ (d.n : Int) := by omega
  clear h ho
  unfold ptr at *
  refine (callsIn_wide (n := 5)).1 ?_
  refine callsIn_of_wp_marks Try.func8 rfl trivial ?_ rfl
  simp only [Try.ntmps8, List.size_toArray, List.length_cons, List.length_nil, Nat.reduceAdd, Nat.reduceSub, Array.replicate_succ, Array.replicate_zero, List.push_toArray, List.append_toArray, List.nil_append, List.cons_append]
  gi_wp2
  refine ⟨trivial, (callsIn_wide.2 HS.out).mono ?_⟩
  rintro e w1 ⟨rfl, rfl⟩
  gi_wp2
  refine ⟨trivial, (callsIn_wide.2 HD.out).mono ?_⟩
  rintro e w1 ⟨rfl, rfl⟩
  gi_wp2
  exact ⟨_, results_tmp2 rfl _ _ _, rfl, rfl⟩
/-- What the loop over the groups keeps. -/
structure OI (w V U : World) (lo j k6 g gs gm G : Nat) (d : Dsk) (pre : List It) (v : Value) : Prop where
  jn : Jn U lo j g gs gm d ⟨G, pre.map It.xs, false⟩ v
  b6 : U.heap[k6]? = some (.cells #[.pointer (some ⟨j, 0, none⟩)] 30)
  fr : Turn [g, gs, gm] w U
theorem OI.c6 {w V U : World} {lo j k6 g gs gm G : Nat} {d : Dsk} {pre : List It} {v : Value} (h : OI w V U lo j k6 g gs gm G d pre v) : U.cell? ⟨k6, 0, none⟩ = some (.pointer (some ⟨j, 0, none⟩)) := cell_at h.b6 0
theorem OI.own {w V : World} {lo j k6 g gs gm G : Nat} {d : Dsk} (hw : w.heap.size ≤ lo) : OwnFrom lo (fun (pre : List It) U => ∃ v, OI w V U lo j k6 g gs gm G d pre v) := by
  rintro pre U U' row ⟨v, h⟩ hg hr
  refine ⟨v, h.jn.quiet hg hr, ?_, ?_⟩
  · refine (hg.block k6 (lt_of_heap h.b6) fun e => ?_).trans h.b6
    obtain ⟨_, o, ho, hc⟩ := hr _ e.symm
    rw [h.b6] at ho
    cases ho
    cases hc
  · exact h.fr.grown hg fun k hk => .inr (by have := (hr k hk).1; omega)
/-- What an Open that is answered OK leaves. -/
def Opened (w : World) (g gs gm : Nat) (d : Dsk) (jr : Jr) (e : Ending) (w' : World) : Prop :=
  ∃ lo j v, e = .returned (.tuple #[ptr j, .int .i64 0]) ∧ Jn w' lo j g gs gm d jr v ∧ Turn [g, gs, gm] w w' ∧ w.heap.size ≤ j
theorem It.ok.put {w : World} {lo l : Nat} {x : It} {o o' : Obj} (h : x.ok w lo) (ho : w.heap[l]? = some o) (hc : o.isCells = false) : x.ok (w.putObj l o') lo := by
  have hb : ∀ p : Addr, x.A = some p → (w.putObj l o').heap[p.block]? = w.heap[p.block]? := fun p hp => by
    obtain ⟨cs, hcs⟩ := h.u8 p hp
    refine World.putObj_heap_other fun e => ?_
    rw [e, ho] at hcs
    cases hcs
    cases hc
  refine ⟨⟨h.byts.len, fun hn => ?_⟩, h.mc, h.cm, h.ab, fun p hp => ?_⟩
  · obtain ⟨b, off, e, hl, hcc⟩ := h.byts.at_ hn
    have hbb := hb _ e
    exact ⟨b, off, e, by simp [World.putObj]; exact hl, fun i hi => (World.cell?_of_block (w := w) (a := ⟨b, off + i, none⟩) hbb).trans (hcc i hi)⟩
  · obtain ⟨cs, hcs⟩ := h.u8 p hp
    exact ⟨cs, (hb p hp).trans hcs⟩
theorem own_row {w : World} {lo j g gs gm : Nat} {d : Dsk} {jr : Jr} {v : Value} (h : Jn w lo j g gs gm d jr v) {k : Nat} (hk : k ∈ j :: v.ownBlock.toList) : (k = j ∨ lo ≤ k) ∧ ∃ (cs : Array Value) (T : TypeId), w.heap[k]? = some (.cells cs T (0, 0)) := by
  obtain ⟨its, o1, _⟩ := h.own
  rcases List.mem_cons.1 hk with rfl | hk
  · exact ⟨.inl rfl, _, _, h.hd⟩
  · obtain ⟨h1, cur, h2⟩ := own_type o1 (by simpa using hk)
    exact ⟨.inr h1, cur, _, h2⟩
theorem round_open {w V U W3 : World} {lo j k6 kb g gs gm G : Nat} {d : Dsk} {pre : List It} {x : It} {v v' : Value} (h : OI w V U lo j k6 g gs gm G d pre v) (hjn : Jn W3 lo j g gs gm d { (⟨G, pre.map It.xs, false⟩ : Jr) with gs := pre.map It.xs ++ [x.xs] } v') (ht : Turn (j :: v.ownBlock.toList) U W3)
    (hkb : kb < lo ∧ kb ≠ j) (hk6 : k6 < lo ∧ k6 ≠ j) (hw : w.heap.size ≤ j ∧ w.heap.size ≤ lo) : KeepsFrom lo U W3 ∧ Kg kb g gs gm U W3 ∧ ∃ v, OI w V W3 lo j k6 g gs gm G d (pre ++ [x]) v := by
  have hap := h.jn.apart
  simp only [List.mem_cons, List.not_mem_nil, or_false, not_or] at hap
  have out : ∀ {k : Nat}, k < lo → k ≠ j → k ∉ j :: v.ownBlock.toList := fun h1 h2 hm => by
    rcases (own_row h.jn hm).1 with e | e <;> omega
  refine ⟨⟨ht.size, fun k o hB hk ho => (ht.block k (Array.getElem?_eq_some_iff.1 hk).1 fun hm => ?_).trans hk⟩, ⟨fun k hk => ?_, ht.size⟩, v', ⟨?_, (ht.block k6 (lt_of_heap h.b6) (out hk6.1 hk6.2)).trans h.b6, h.fr.then_ ht fun k hk => .inr ?_⟩⟩
  · obtain ⟨_, cs, T, hc⟩ := own_row h.jn hm
    rw [hk] at hc
    cases hc
    cases ho
  · simp only [List.mem_cons, List.not_mem_nil, or_false] at hk
    have l1 := h.jn.lows g (by simp)
    have l2 := h.jn.lows gs (by simp)
    have l3 := h.jn.lows gm (by simp)
    have := h.jn.le
    rcases hk with rfl | rfl | rfl | rfl
    · exact ht.block _ (by omega) (out hkb.1 hkb.2)
    · exact ht.block _ (by omega) (out l1 (by omega))
    · exact ht.block _ (by omega) (out l2 (by omega))
    · exact ht.block _ (by omega) (out l3 (by omega))
  · have e : (pre ++ [x]).map It.xs = pre.map It.xs ++ [x.xs] := by simp
    rw [e]
    exact hjn
  · rcases (own_row h.jn hk).1 with e | e <;> omega
theorem OI.fin {w V U : World} {lo j k6 g gs gm G D : Nat} {d : Dsk} {pre : List It} {v : Value} (h : OI w V U lo j k6 g gs gm G d pre v) (hD : lo ≤ D) (hK : U.heap[D]? = some (.deferred (some []))) (hw : w.heap.size ≤ lo) :
    Jn (U.putObj D (.deferred none)) lo j g gs gm d ⟨G, pre.map It.xs, false⟩ v ∧ Turn [g, gs, gm] w (U.putObj D (.deferred none)) := by
  refine ⟨h.jn.quiet (grownBy_putObj' U D _) (fun r e => by cases e; exact ⟨hD, _, hK, rfl⟩), h.fr.grown (grownBy_putObj' U D _) fun k e => .inr (by cases e; omega)⟩
theorem jn_new {V : World} {j g gs gm G : Nat} {d : Dsk} (hd : Dk V g gs gm d) (hj : V.heap[j]? = some (.cells #[.pointer (some ⟨g, 0, none⟩), .int .i64 G, .slice none 0 0, .int .i64 0, .bool false] 51)) (h8 : 8 ≤ d.n) (h1 : 1 ≤ G) (hb : G < 9223372036854775807) : Jn V V.heap.size j g gs gm d ⟨G, [], false⟩ (.slice none 0 0) := by
  refine ⟨hd, hj, ⟨[], World.ownsRow_nil V V.heap.size 35 1, rfl, by simp⟩, fun x hx => ?_, Nat.le_refl _, h8, h1, hb, Nat.zero_le _⟩
  have := Dk.lows hd
  rcases List.mem_cons.1 hx with rfl | hx
  · exact lt_of_heap hj
  · exact this x hx
/-- Four new blocks. -/
theorem four_new (w : World) (a b c e : Obj) : Below w.heap.size w ((((w.alloc a).alloc b).alloc c).alloc e) ∧ ((((w.alloc a).alloc b).alloc c).alloc e).heap[w.heap.size]? = some a ∧ ((((w.alloc a).alloc b).alloc c).alloc e).heap[w.heap.size + 1]? = some b ∧
    ((((w.alloc a).alloc b).alloc c).alloc e).heap[w.heap.size + 1 + 1]? = some c ∧ ((((w.alloc a).alloc b).alloc c).alloc e).heap[w.heap.size + 1 + 1 + 1]? = some e := by
  have h1 := heap_alloc_new w a
  have h2 := heap_alloc_new (w.alloc a) b
  have h3 := heap_alloc_new ((w.alloc a).alloc b) c
  have h4 := heap_alloc_new (((w.alloc a).alloc b).alloc c) e
  simp only [World.size_alloc] at h2 h3 h4
  have k : ∀ (u : World) (o : Obj) (i : Nat), i < u.heap.size → (u.alloc o).heap[i]? = u.heap[i]? := fun u o i hi => Below.heap_alloc u o i hi
  refine ⟨(((Below.refl _ w).alloc (Nat.le_refl _) _).alloc (by simp) _ |>.alloc (by simp <;> omega) _).alloc (by simp <;> omega) _, ?_, ?_, ?_, h4⟩
  · rw [k _ _ _ (by simp <;> omega), k _ _ _ (by simp <;> omega), k _ _ _ (by simp)]
    exact h1
  · rw [k _ _ _ (by simp <;> omega), k _ _ _ (by simp)]
    exact h2
  · rw [k _ _ _ (by simp)]
    exact h3
set_option maxHeartbeats 4000000 in
theorem open_old (w : World) (g gs gm : Nat) (d : Dsk) (h : Dk w g gs gm d) (h8 : 8 ≤ d.n) (ho : d.off = false) (hn : newest (rd d) ≠ 0) (hb : newest (rd d) < 9223372036854775807) : Calls Try.prog 8 #[ptr g] w (Opened w g gs gm (openD d) (openJ d)) := by
  have hmp0 := getM_pos (rd d 0)
  have HS := Lib.hid (Disk.sectors_disk w g gs gm d h)
  have HD := Lib.hid (Disk.down_disk w g gs gm d h)
  have HN := Lib.hid (newest_any w g gs gm d h ho)
  have HGF := Lib.hid (fun u G => groups_fn u g G)
  have h8i : 8 ≤ (d.n : Int) := by omega
  have hnb : newB (rd d) = true := by unfold newB; simp; omega
  have HDK : Hid (openD d = d) := Lib.hid (by unfold openD; rw [if_neg hn])
  have HGG : Hid ((⟨newest (rd d), groups (rd d) d.n (newest (rd d)), false⟩ : Jr) = openJ d) := Lib.hid (by unfold openJ; rw [HDK.out]; unfold openG; rw [if_neg hn])
  have HDW := Lib.hid h
  have HOF := Lib.hid ho
  have hG1 : 1 ≤ newest (rd d) := by omega
  rw [hnb] at HN
  rw [ho] at HD
  generalize newest (rd d) = G at *
  have HG1 := Lib.hid (And.intro hG1 hb)
  unfold hv at HGF
  unfold hbox ptr at *
  refine (callsIn_wide (n := 5)).1 ?_
  refine callsIn_of_wp_marks Try.func8 rfl trivial ?_ rfl
  simp only [Try.ntmps8, List.size_toArray, List.length_cons, List.length_nil, Nat.reduceAdd, Nat.reduceSub, Array.replicate_succ, Array.replicate_zero, List.push_toArray, List.append_toArray, List.nil_append, List.cons_append]
  clear h hn hnb ho hG1 hb hmp0
  gi_wp2
  refine ⟨trivial, (callsIn_wide.2 HS.out).mono ?_⟩
  rintro e w1 ⟨rfl, rfl⟩
  gi_wp2
  refine ⟨trivial, (callsIn_wide.2 HD.out).mono ?_⟩
  rintro e w1 ⟨rfl, rfl⟩
  gi_wp2
  refine ⟨trivial, (callsIn_wide.2 HN.out).mono ?_⟩
  rintro e w1 ⟨rfl, hb1⟩
  have HB1 := Lib.hid hb1
  clear hb1
  gi_wp2
  refine ⟨trivial, (callsIn_wide.2 (HGF.out _ G)).mono ?_⟩
  rintro e w2 ⟨rfl, rfl⟩
  gi_wp2
  have HV := Lib.hid (four_new w1 (.cells #[.pointer (some ⟨g, 0, none⟩), .int .i64 G] 49) (.cells #[.pointer (some ⟨g, 0, none⟩), .int .i64 G, .slice none 0 0, .int .i64 0, .bool false] 51) (.cells #[.pointer (some ⟨w1.heap.size + 1, 0, none⟩)] 30) (.cells #[.pointer (some ⟨g, 0, none⟩), .int .i64 G] 49))
  generalize hV : (((w1.alloc (.cells #[.pointer (some ⟨g, 0, none⟩), .int .i64 G] 49)).alloc (.cells #[.pointer (some ⟨g, 0, none⟩), .int .i64 G, .slice none 0 0, .int .i64 0, .bool false] 51)).alloc (.cells #[.pointer (some ⟨w1.heap.size + 1, 0, none⟩)] 30)).alloc (.cells #[.pointer (some ⟨g, 0, none⟩), .int .i64 G] 49) = V at *
  clear hV
  obtain ⟨v0, v1, v2, v3, v4⟩ := HV.out
  have HJW : Hid (w.heap.size ≤ w1.heap.size + 1) := Lib.hid (by have := HB1.out.size; omega)
  have HVW : Hid (w.heap.size ≤ V.heap.size) := Lib.hid (by have := HB1.out.size; have := v0.size; omega)
  have HOI : Hid (OI w V V V.heap.size (w1.heap.size + 1) (w1.heap.size + 1 + 1) g gs gm G d [] (.slice none 0 0)) := Lib.hid ⟨jn_new (Dk.below (Dk.below HDW.out HB1.out) v0) v2 (by omega) HG1.out.1 HG1.out.2, v3, (Turn.ofBelow HB1.out).trans (Turn.ofBelow v0)⟩
  have HBK := Lib.hid v4
  have HLS : Hid (∀ x ∈ [w1.heap.size + 1 + 1 + 1, g, gs, gm], x < V.heap.size) := Lib.hid (fun x hx => by
    rcases List.mem_cons.1 hx with rfl | hx
    · exact lt_of_heap HBK.out
    · exact Dk.lows HOI.out.jn.disk x hx)
  have HKK : Hid (w1.heap.size + 1 + 1 < V.heap.size) := Lib.hid (lt_of_heap v3)
  clear v0 v1 v2 v3 v4
  refine wpIn_range_told (gf := 46) (lb := #[.pointer (some ⟨w1.heap.size + 1 + 1 + 1, 0, none⟩)]) rfl (enters_of Try.func46 (by kernel_rfl) rfl) (fun x : It => #[x.val]) (Fg V.heap.size (room d.n)) (Kg (w1.heap.size + 1 + 1 + 1) g gs gm) (fun xs => xs.map It.xs = groups (rd d) d.n G)
    (groups_tells 4 _ g gs gm _ _ V HBK.out HOI.out.jn.disk HOF.out (by have := HOI.out.jn.n8; omega) (by have := HG1.out.2; omega) V.heap.size (Nat.le_refl _)) (fun _ => rfl)
    (fun h k => ⟨fun x hx => (k.1 x hx).trans (h.1 x hx), Nat.le_trans h.2 k.2⟩)
    (fun U l o o' hl ho _ => ⟨fun x hx => World.putObj_heap_other (by have := HLS.out x hx; omega), by simp [World.putObj]⟩)
    (fun pre x U l o o' hx ho hc => ⟨hx.1.put ho hc, hx.2⟩)
    (fun pre U => ∃ v, OI w V U V.heap.size (w1.heap.size + 1) (w1.heap.size + 1 + 1) g gs gm G d pre v) (OI.own HVW.out) ⟨_, HOI.out⟩
    (fun x => { tmps := #[.pointer (some ⟨g, 0, none⟩), undef, .pointer none, .int .i64 0, .pointer (some ⟨w1.heap.size, 0, none⟩), .bool true, .pointer (some ⟨w1.heap.size + 1 + 1, 0, none⟩), x.val, .pointer (some ⟨g, 0, none⟩), .int .i64 d.n, .bool (decide ((d.n : Int) < 8)), .pointer (some ⟨g, 0, none⟩), .bool false, .tuple #[.agg #[.pointer (some ⟨g, 0, none⟩), .int .i64 G], .bool true], .pointer (some ⟨g, 0, none⟩), .tuple #[.agg #[.pointer (some ⟨g, 0, none⟩), .int .i64 G], .bool true], .agg #[.pointer (some ⟨g, 0, none⟩), .int .i64 G], .bool true, .bool true, .bool false, undef, undef, undef, undef, undef, .agg #[.pointer (some ⟨g, 0, none⟩), .int .i64 G], .agg #[.pointer (some ⟨g, 0, none⟩), .int .i64 G, .slice none 0 0, .int .i64 0, .bool false], .pointer (some ⟨w1.heap.size + 1, 0, none⟩), .agg #[.pointer (some ⟨g, 0, none⟩), .int .i64 G], .func (.func 46) #[] #[.pointer (some ⟨w1.heap.size + 1 + 1 + 1, 0, none⟩)], x.val, undef, undef, undef, undef], defers := [] }) ?assign ?body ?done
  case assign =>
    intro l x U K hK'
    gi_wp2
    exact hK'
  case body =>
    rintro l pre x U ⟨v, hoi⟩ hx
    have h6 := hoi.c6
    have HO := Lib.hid hoi
    have HX := Lib.hid hx
    have HA := Lib.hid (add_any U V.heap.size (w1.heap.size + 1) g gs gm d ⟨G, pre.map It.xs, false⟩ v x hoi.jn hx.1 hx.2)
    unfold ptr at HA
    clear hoi hx
    generalize x.val = xv at *
    gi_wp2
    refine ⟨trivial, (CallsIn.inRound l (callsIn_wide.2 HA.out)).mono ?_⟩
    rintro e W3 ⟨rfl, v', hjn, ht, hv⟩
    have HR := Lib.hid (And.intro hjn (And.intro ht hv))
    clear hjn ht hv h6
    gi_wp2
    exact round_open HO.out HR.out.1 HR.out.2.1 ⟨HLS.out _ (by simp), by omega⟩ ⟨HKK.out, by omega⟩ ⟨HJW.out, HVW.out⟩
  case done =>
    rintro D ys U hD hS ⟨v, hoi⟩ hK'
    have h6 := hoi.c6
    have HO := Lib.hid hoi
    have HS9 := Lib.hid hS
    clear hoi hS
    gi_wp2
    refine ⟨by simp, .inl ⟨_, _, rfl, run_takeDeferred hK', ?_⟩⟩
    refine ⟨_, results_tmp2 rfl _ _ _, ?_⟩
    have hfin := HO.out.fin hD hK' HVW.out
    rw [HS9.out, HGG.out] at hfin
    rw [HDK.out]
    exact ⟨_, _, v, rfl, hfin.1, hfin.2, HJW.out⟩
theorem three_new (w : World) (a b c : Obj) : Below w.heap.size w (((w.alloc a).alloc b).alloc c) ∧ (((w.alloc a).alloc b).alloc c).heap[w.heap.size]? = some a ∧ (((w.alloc a).alloc b).alloc c).heap[w.heap.size + 1]? = some b ∧ (((w.alloc a).alloc b).alloc c).heap[w.heap.size + 1 + 1]? = some c := by
  have h1 := heap_alloc_new w a
  have h2 := heap_alloc_new (w.alloc a) b
  have h3 := heap_alloc_new ((w.alloc a).alloc b) c
  simp only [World.size_alloc] at h2 h3
  have k : ∀ (u : World) (o : Obj) (i : Nat), i < u.heap.size → (u.alloc o).heap[i]? = u.heap[i]? := fun u o i hi => Below.heap_alloc u o i hi
  refine ⟨((Below.refl _ w).alloc (Nat.le_refl _) _).alloc (by simp) _ |>.alloc (by simp <;> omega) _, ?_, ?_, h3⟩
  · rw [k _ _ _ (by simp <;> omega), k _ _ _ (by simp)]
    exact h1
  · rw [k _ _ _ (by simp)]
    exact h2
/-- What an Open that is not leaves. -/
def Unopened (w : World) (g gs gm : Nat) (d : Dsk) (e : Ending) (w' : World) : Prop := e = .returned (.tuple #[.pointer none, .int .i64 3]) ∧ Dk w' g gs gm d ∧ Turn [g, gs, gm] w w'
set_option maxHeartbeats 4000000 in
theorem open_new (w : World) (g gs gm : Nat) (d : Dsk) (h : Dk w g gs gm d) (h8 : 8 ≤ d.n) (ho : d.off = false) (hn : newest (rd d) = 0) :
    Calls Try.prog 8 #[ptr g] w (fun e w' => (openB d = true ∧ Opened w g gs gm (openD d) (openJ d) e w') ∨ (openB d = false ∧ Unopened w g gs gm (openD d) e w')) := by
  have HS := Lib.hid (Disk.sectors_disk w g gs gm d h)
  have HD := Lib.hid (Disk.down_disk w g gs gm d h)
  have HN := Lib.hid (newest_any w g gs gm d h ho)
  have HGF := Lib.hid (fun u G => groups_fn u g G)
  have HBG := Lib.hid (fun u hu => begin_any u g gs gm d 1 0 0 none [] hu (by omega) (by omega) Frm.Rows.none_ (by simp) (by simp [takes]))
  have h8i : 8 ≤ (d.n : Int) := by omega
  have hnb : newB (rd d) = false := by unfold newB; simp; omega
  have HDN : Hid (openD d = beginD d 1 []) := Lib.hid (by unfold openD; rw [if_pos hn])
  have HBB : Hid (openB d = beginB d 1 []) := Lib.hid (by unfold openB; rw [if_pos hn])
  have HGG : Hid ((⟨1, groups (rd (beginD d 1 [])) (beginD d 1 []).n 1, false⟩ : Jr) = openJ d) := Lib.hid (by unfold openJ; rw [HDN.out, beginD_n]; unfold openG; rw [if_pos hn])
  have HOF : Hid (beginB d 1 [] = true → (beginD d 1 []).off = false) := Lib.hid (fun hb => beginB_on hb)
  have HDL : Hid ((beginD d 1 []).n = d.n) := Lib.hid (beginD_n d 1 [])
  have HDW := Lib.hid h
  have hz : ((0 : Nat) : Int) = 0 := rfl
  have hz1 : ((1 : Nat) : Int) = 1 := rfl
  have hL := Dk.lows h
  have HLW := Lib.hid hL
  rw [hn, hz, hnb] at HN
  rw [ho] at HD
  generalize beginB d 1 [] = kb at *
  generalize beginD d 1 [] = d1 at *
  unfold hv at HGF HBG
  rw [hz1] at HBG
  unfold hbox ptr at *
  refine (callsIn_wide (n := 5)).1 ?_
  refine callsIn_of_wp_marks Try.func8 rfl trivial ?_ rfl
  simp only [Try.ntmps8, List.size_toArray, List.length_cons, List.length_nil, Nat.reduceAdd, Nat.reduceSub, Array.replicate_succ, Array.replicate_zero, List.push_toArray, List.append_toArray, List.nil_append, List.cons_append]
  clear h hn hnb ho hz hz1 hL
  gi_wp2
  refine ⟨trivial, (callsIn_wide.2 HS.out).mono ?_⟩
  rintro e w1 ⟨rfl, rfl⟩
  gi_wp2
  refine ⟨trivial, (callsIn_wide.2 HD.out).mono ?_⟩
  rintro e w1 ⟨rfl, rfl⟩
  gi_wp2
  refine ⟨trivial, (callsIn_wide.2 HN.out).mono ?_⟩
  rintro e w1 ⟨rfl, hb1⟩
  have HB1 := Lib.hid hb1
  clear hb1
  gi_wp2
  have hk4 := heap_alloc_new w1 (.cells #[.pointer (some ⟨g, 0, none⟩), .int .i64 1] 49)
  have hba := Frm.alloc_below w1 (.cells #[.pointer (some ⟨g, 0, none⟩), .int .i64 1] 49)
  have HW2 := Lib.hid (HB1.out.trans (hba.mono HB1.out.size))
  have hdw := Dk.below (Dk.below HDW.out HB1.out) hba
  have HAP := Lib.hid (apart_disk hdw hk4 (by decide) (by simp))
  have HK4 := Lib.hid hk4
  have HDD := Lib.hid hdw
  clear hk4 hba hdw
  refine ⟨trivial, (callsIn_wide.2 (HBG.out _ HDD.out)).mono ?_⟩
  rintro e w2 ⟨rfl, hdk, ht⟩
  have HDK := Lib.hid hdk
  have HTT := Lib.hid ht
  have HB4 := Lib.hid ((ht.block _ (lt_of_heap HK4.out) HAP.out).trans HK4.out)
  clear hdk ht HBG
  generalize w1.alloc (.cells #[.pointer (some ⟨g, 0, none⟩), .int .i64 1] 49) = W1 at *
  rcases Bool.eq_false_or_eq_true kb with hkb | hkb
  · have HKB := Lib.hid hkb
    rw [hkb]
    clear hkb
    have he : err true = 0 := rfl
    rw [he]
    clear he
    have hlt4 : w1.heap.size < w2.heap.size := lt_of_heap HB4.out
    have b0 := box0 HB4.out
    have b1 : w2.cell? ⟨w1.heap.size, 1, none⟩ = some (.int .i64 1) := cell_at HB4.out 1
    have HGF1 : Hid (∀ u, Calls Try.prog 26 #[.agg #[.pointer (some ⟨g, 0, none⟩), .int .i64 1]] u fun e w' => e = .returned (.func (.func 46) #[] #[.pointer (some ⟨u.heap.size, 0, none⟩)]) ∧ w' = u.alloc (.cells #[.pointer (some ⟨g, 0, none⟩), .int .i64 1] 49)) := Lib.hid (fun u => HGF.out u 1)
    gi_wp2
    refine ⟨trivial, (callsIn_wide.2 (HGF1.out _)).mono ?_⟩
    rintro e w3 ⟨rfl, rfl⟩
    gi_wp2
    have HV := Lib.hid (three_new w2 (.cells #[.pointer (some ⟨g, 0, none⟩), .int .i64 1, .slice none 0 0, .int .i64 0, .bool false] 51) (.cells #[.pointer (some ⟨w2.heap.size, 0, none⟩)] 30) (.cells #[.pointer (some ⟨g, 0, none⟩), .int .i64 1] 49))
    generalize hV : ((w2.alloc (.cells #[.pointer (some ⟨g, 0, none⟩), .int .i64 1, .slice none 0 0, .int .i64 0, .bool false] 51)).alloc (.cells #[.pointer (some ⟨w2.heap.size, 0, none⟩)] 30)).alloc (.cells #[.pointer (some ⟨g, 0, none⟩), .int .i64 1] 49) = V at *
    clear hV
    obtain ⟨v0, v2, v3, v4⟩ := HV.out
    have HJW : Hid (w.heap.size ≤ w2.heap.size) := Lib.hid (by have := HW2.out.size; have := HTT.out.size; omega)
    have HVW : Hid (w.heap.size ≤ V.heap.size) := Lib.hid (by have := HJW.out; have := v0.size; omega)
    have HOI : Hid (OI w V V V.heap.size (w2.heap.size) (w2.heap.size + 1) g gs gm 1 d1 [] (.slice none 0 0)) := Lib.hid ⟨jn_new (Dk.below HDK.out v0) v2 (by rw [HDL.out]; exact h8) (by omega) (by omega), v3, ((Turn.ofBelow (S := [g, gs, gm]) HW2.out).trans HTT.out).trans (Turn.ofBelow v0)⟩
    have HBK : Hid (V.heap[w2.heap.size + 1 + 1]? = some (hbox g 1)) := Lib.hid v4
    have HOFF := Lib.hid (HOF.out HKB.out)
    have HLS : Hid (∀ x ∈ [w2.heap.size + 1 + 1, g, gs, gm], x < V.heap.size) := Lib.hid (fun x hx => by
      rcases List.mem_cons.1 hx with rfl | hx
      · exact lt_of_heap HBK.out
      · exact Dk.lows HOI.out.jn.disk x hx)
    have HKK : Hid (w2.heap.size + 1 < V.heap.size) := Lib.hid (lt_of_heap v3)
    clear v0 v2 v3 v4
    refine wpIn_range_told (gf := 46) (lb := #[.pointer (some ⟨w2.heap.size + 1 + 1, 0, none⟩)]) rfl (enters_of Try.func46 (by kernel_rfl) rfl) (fun x : It => #[x.val]) (Fg V.heap.size (room d1.n)) (Kg (w2.heap.size + 1 + 1) g gs gm) (fun xs => xs.map It.xs = groups (rd d1) d1.n 1)
      (groups_tells 4 _ g gs gm _ _ V HBK.out HOI.out.jn.disk HOFF.out (by have := HOI.out.jn.n8; omega) (by omega) V.heap.size (Nat.le_refl _)) (fun _ => rfl)
      (fun h k => ⟨fun x hx => (k.1 x hx).trans (h.1 x hx), Nat.le_trans h.2 k.2⟩)
      (fun U l o o' hl ho _ => ⟨fun x hx => World.putObj_heap_other (by have := HLS.out x hx; omega), by simp [World.putObj]⟩)
      (fun pre x U l o o' hx ho hc => ⟨hx.1.put ho hc, hx.2⟩)
      (fun pre U => ∃ v, OI w V U V.heap.size (w2.heap.size) (w2.heap.size + 1) g gs gm 1 d1 pre v) (OI.own HVW.out) ⟨_, HOI.out⟩
      (fun x => { tmps := #[.pointer (some ⟨g, 0, none⟩), undef, .pointer none, .int .i64 0, .pointer (some ⟨w1.heap.size, 0, none⟩), .bool false, .pointer (some ⟨w2.heap.size + 1, 0, none⟩), x.val, .pointer (some ⟨g, 0, none⟩), .int .i64 d.n, .bool (decide ((d.n : Int) < 8)), .pointer (some ⟨g, 0, none⟩), .bool false, .tuple #[.agg #[.pointer (some ⟨g, 0, none⟩), .int .i64 0], .bool false], .pointer (some ⟨g, 0, none⟩), .tuple #[.agg #[.pointer (some ⟨g, 0, none⟩), .int .i64 0], .bool false], .agg #[.pointer (some ⟨g, 0, none⟩), .int .i64 0], .bool false, .bool false, .bool true, .pointer (some ⟨g, 0, none⟩), .agg #[.pointer (some ⟨g, 0, none⟩), .int .i64 1], .agg #[.pointer (some ⟨g, 0, none⟩), .int .i64 1], .int .i64 0, .bool false, .agg #[.pointer (some ⟨g, 0, none⟩), .int .i64 1], .agg #[.pointer (some ⟨g, 0, none⟩), .int .i64 1, .slice none 0 0, .int .i64 0, .bool false], .pointer (some ⟨w2.heap.size, 0, none⟩), .agg #[.pointer (some ⟨g, 0, none⟩), .int .i64 1], .func (.func 46) #[] #[.pointer (some ⟨w2.heap.size + 1 + 1, 0, none⟩)], x.val, undef, undef, undef, undef], defers := [] }) ?assign ?body ?done
    case assign =>
      intro l x U K hK'
      gi_wp2
      exact hK'
    case body =>
      rintro l pre x U ⟨v, hoi⟩ hx
      have h6 := hoi.c6
      have HO := Lib.hid hoi
      have HX := Lib.hid hx
      have HA := Lib.hid (add_any U V.heap.size (w2.heap.size) g gs gm d1 ⟨1, pre.map It.xs, false⟩ v x hoi.jn hx.1 hx.2)
      unfold ptr at HA
      clear hoi hx
      generalize x.val = xv at *
      gi_wp2
      refine ⟨trivial, (CallsIn.inRound l (callsIn_wide.2 HA.out)).mono ?_⟩
      rintro e W3 ⟨rfl, v', hjn, ht, hv⟩
      have HR := Lib.hid (And.intro hjn (And.intro ht hv))
      clear hjn ht hv h6
      gi_wp2
      exact round_open HO.out HR.out.1 HR.out.2.1 ⟨HLS.out _ (by simp), by omega⟩ ⟨HKK.out, by omega⟩ ⟨HJW.out, HVW.out⟩
    case done =>
      rintro D ys U hD hS ⟨v, hoi⟩ hK'
      have h6 := hoi.c6
      have HO := Lib.hid hoi
      have HS9 := Lib.hid hS
      clear hoi hS
      gi_wp2
      refine ⟨by simp, .inl ⟨_, _, rfl, run_takeDeferred hK', ?_⟩⟩
      refine ⟨_, results_tmp2 rfl _ _ _, ?_⟩
      have hfin := HO.out.fin hD hK' HVW.out
      rw [HS9.out, HGG.out] at hfin
      rw [HDN.out, HBB.out]
      exact .inl ⟨HKB.out, _, _, v, rfl, hfin.1, hfin.2, HJW.out⟩
  · have HKB := Lib.hid hkb
    rw [hkb]
    clear hkb
    have he : err false = 3 := rfl
    rw [he]
    clear he
    gi_wp2
    refine ⟨_, results_tmp2 rfl _ _ _, ?_⟩
    rw [HDN.out, HBB.out]
    exact .inr ⟨HKB.out, rfl, HDK.out, (Turn.ofBelow (S := [g, gs, gm]) HW2.out).trans HTT.out⟩
end Go.Proofs.Ytgjdgmpjbpnjbaa.Jou
/-
  Why a journal refuses groups; what fall and Append do. Conditions: the journal is known, the group lies apart from its disk.
-/
namespace Go.Proofs.Ytgjdgmpjbpnjbaa.Jou
open Go.RowKit Codec FrameM Cod JourM
open Disk (Turn Dk Dsk ptr Now)
open Frm (Above U8)
set_option maxRecDepth 100000
def whyJ (dn : Bool) (ls : List (List UInt8)) : Int := if dn then 3 else if anyLong ls then 1 else 0
theorem anyLong_no {ls : List (List UInt8)} (h : ∀ q, q < ls.length → (ls.getD q []).length ≤ 1048576) : anyLong ls = false := by
  unfold anyLong
  rw [List.any_eq_false]
  intro b hb
  obtain ⟨q, hq, rfl⟩ := List.getElem_of_mem hb
  have := h q hq
  rw [Frm.getD_of hq] at this
  simp
  omega
theorem anyLong_yes {ls : List (List UInt8)} {q : Nat} (hq : q < ls.length) (h : 1048576 < (ls.getD q []).length) : anyLong ls = true := by
  unfold anyLong
  rw [List.any_eq_true]
  exact ⟨ls[q], List.getElem_mem _, by rw [Frm.getD_of hq] at h; simp; omega⟩
theorem anyLong_all {ls : List (List UInt8)} (h : anyLong ls = false) : ∀ b ∈ ls, b.length ≤ 1048576 := by
  intro b hb
  unfold anyLong at h
  rw [List.any_eq_false] at h
  have := h b hb
  simp at this
  exact this
theorem refuses_none {w : World} {p : Value} (h : JNobody w p) (u : Value) : Calls Try.prog 28 #[p, u] w (Disk.Ends (.int .i64 1) w) := by
  have HM := Lib.hid (jmade_none h)
  clear h
  go_enter Try.func28, Try.ntmps28
  go_wp2_with fail
  refine HM.out.mono ?_
  rintro e w1 ⟨rfl, rfl⟩
  go_wp2
  go_ret
  exact ⟨rfl, rfl⟩
set_option maxHeartbeats 1000000 in
theorem refuses_any (w : World) (lo j g gs gm : Nat) (d : Dsk) (jr : Jr) (v : Value) (n c : Nat) (A : Option Addr) (ls : List (List UInt8)) (h : Jn w lo j g gs gm d jr v) (hr : RowL w A n ls) (hn : n ≤ 1000000000000) :
    Calls Try.prog 28 #[ptr j, .slice A n c] w (Disk.Ends (.int .i64 (whyJ jr.down ls)) w) := by
  have HM := Lib.hid (jmade_any h)
  have h4 := h.c.2.2.2.2
  have HR := Lib.hid hr
  have HLEN := Lib.hid hr.len
  have hn1 : (n : Int) ≤ 1000000000000 := by omega
  clear h hr
  unfold ptr at *
  cases hdn : jr.down with
  | true =>
    have HV : Hid (whyJ true ls = 3) := Lib.hid rfl
    rw [HV.out]
    rw [hdn] at h4
    clear hdn
    go_enter Try.func28, Try.ntmps28
    go_wp2_with fail
    refine HM.out.mono ?_
    rintro e w1 ⟨rfl, rfl⟩
    go_wp2
    go_ret
    exact ⟨rfl, rfl⟩
  | false =>
    have HV : Hid (whyJ false ls = if anyLong ls then 1 else 0) := Lib.hid rfl
    rw [hdn] at h4
    clear hdn
    generalize whyJ false ls = wy at *
    go_enter Try.func28, Try.ntmps28
    go_wp2_with fail
    refine HM.out.mono ?_
    rintro e w1 ⟨rfl, rfl⟩
    go_wp2
    go_loop [16] (fun i => ∃ k : Nat, k ≤ n ∧ i = .int .i64 k ∧ ∀ q, q < k → (ls.getD q []).length ≤ 1048576) (fun i => n - (Go.RowKit.intOf i).toNat)
    case atStart => exact ⟨0, by omega, rfl, fun q hq => absurd hq (by omega)⟩
    case round =>
      obtain ⟨k, hk, rfl, hq⟩ := hrel
      have HQ := Lib.hid hq
      clear hq
      by_cases hlt : k < n
      · obtain ⟨b, o, Aj, cj, hat, hcell⟩ := HR.out.at hlt
        have hidx := hat c
        have HKL : Hid (k < ls.length) := Lib.hid (by rw [HLEN.out]; exact hlt)
        clear hat
        by_cases hl : (ls.getD k []).length ≤ 1048576
        · have HL := Lib.hid hl
          have hl2 : ((ls.getD k []).length : Int) ≤ 1048576 := by omega
          clear hl
          obtain ⟨lx, hlx⟩ : ∃ lx, (ls.getD k []).length = lx := ⟨_, rfl⟩
          rw [hlx] at hcell hl2
          clear hlx
          go_wp2
          go_round
          case rel =>
            refine ⟨k + 1, by omega, by go_num, fun q hq => ?_⟩
            by_cases he : q = k
            · subst he
              exact HL.out
            · exact HQ.out q (by omega)
          case measure => simp [Go.RowKit.intOf]; omega
        · have HWY : Hid (wy = 1) := Lib.hid (by rw [HV.out, anyLong_yes HKL.out (by omega)]; rfl)
          have hl2 : (1048576 : Int) < ((ls.getD k []).length : Int) := by omega
          clear hl
          generalize (ls.getD k []).length = lx at *
          go_wp2
          go_ret
          rw [HWY.out]
          exact ⟨rfl, rfl⟩
      · obtain rfl : k = n := by omega
        have HWY : Hid (wy = 0) := Lib.hid (by rw [HV.out, anyLong_no (fun q hq => HQ.out q (by rw [← HLEN.out]; exact hq))]; rfl)
        go_wp2
        go_ret
        rw [HWY.out]
        exact ⟨rfl, rfl⟩
/-- What fall leaves. -/
def Fell (w : World) (lo j g gs gm : Nat) (d : Dsk) (jr : Jr) (v : Value) (e : Ending) (w' : World) : Prop := e = .returned (.int .i64 3) ∧ Jn w' lo j g gs gm d { jr with down := true } v ∧ Turn [j] w w'
theorem fall_any (w : World) (lo j g gs gm : Nat) (d : Dsk) (jr : Jr) (v : Value) (h : Jn w lo j g gs gm d jr v) : Calls Try.prog 30 #[ptr j] w (Fell w lo j g gs gm d jr v) := by
  have HJ := Lib.hid h
  have h4 := h.c.2.2.2.2
  have f4 : w.frozen? ⟨j, 4, none⟩ = false := free_at h.hd 4
  clear h
  unfold ptr
  go_enter Try.func30, Try.ntmps30
  go_wp2
  go_ret
  have ht : Turn [j] w (w.setCell ⟨j, 4, none⟩ (.bool true)) := (Turn.refl [j] w).setCell (.inl (by simp)) _
  have hj := HJ.out
  have hap := hj.apart
  have hjl := hj.lows j (by simp)
  simp only [List.mem_cons, List.not_mem_nil, or_false, not_or] at hap
  obtain ⟨its, o1, o2, o3⟩ := hj.own
  refine ⟨rfl, ⟨hj.disk.turn ht (by simp; omega) (by simp; omega) (by simp; omega), set_at hj.hd 4 _, ⟨its, own_same o1 fun r hr => ?_, o2, fun x hx => (o3 x hx).turn ht fun k hk => .inl (by simp at hk; omega)⟩, hj.lows, Nat.le_trans hj.le ht.size, hj.n8, hj.one, hj.big, hj.fit⟩, ht⟩
  obtain ⟨hlo, cur, hc⟩ := own_type o1 hr
  exact ht.block r (lt_of_heap hc) (by simp; omega)
/-- What Append leaves. -/
def Appended (w : World) (lo j g gs gm : Nat) (v : Value) (z : Int) (d' : Dsk) (jr' : Jr) (e : Ending) (w' : World) : Prop :=
  e = .returned (.int .i64 z) ∧ ∃ v', Jn w' lo j g gs gm d' jr' v' ∧ Turn ([j, g, gs, gm] ++ v.ownBlock.toList) w w' ∧ ∀ r, v'.ownBlock = some r → v.ownBlock = some r ∨ w.heap.size ≤ r
theorem app_parts (d : Dsk) (jr : Jr) (b : List UInt8) : (jr.down = true ∧ appE d jr b = 3 ∧ appD d jr b = d ∧ appJ d jr b = jr) ∨ (jr.down = false ∧ 1048576 < b.length ∧ appE d jr b = 1 ∧ appD d jr b = d ∧ appJ d jr b = jr) ∨
    (jr.down = false ∧ b.length ≤ 1048576 ∧ room d.n < takes1 b + takes jr.gs ∧ appE d jr b = 2 ∧ appD d jr b = d ∧ appJ d jr b = jr) ∨
    (jr.down = false ∧ b.length ≤ 1048576 ∧ takes1 b + takes jr.gs ≤ room d.n ∧ extB d jr.gen (takes jr.gs) jr.gs.length b = false ∧ appE d jr b = 3 ∧ appD d jr b = extD d jr.gen (takes jr.gs) jr.gs.length b ∧ appJ d jr b = { jr with down := true }) ∨
    (jr.down = false ∧ b.length ≤ 1048576 ∧ takes1 b + takes jr.gs ≤ room d.n ∧ extB d jr.gen (takes jr.gs) jr.gs.length b = true ∧ appE d jr b = 0 ∧ appD d jr b = extD d jr.gen (takes jr.gs) jr.gs.length b ∧ appJ d jr b = { jr with gs := jr.gs ++ [b] }) := by
  unfold appE appD appJ appDo
  cases hd : jr.down with
  | true => simp
  | false =>
    by_cases h1 : 1048576 < b.length
    · have : ¬ b.length ≤ 1048576 := by omega
      simp [h1, this]
    · have h1' : b.length ≤ 1048576 := by omega
      by_cases h2 : room d.n < takes1 b + takes jr.gs
      · have : ¬ takes1 b + takes jr.gs ≤ room d.n := by omega
        simp [h1, h1', h2, this]
      · have h2' : takes1 b + takes jr.gs ≤ room d.n := by omega
        cases h3 : extB d jr.gen (takes jr.gs) jr.gs.length b <;> simp [h1, h1', h2, h2']
set_option maxHeartbeats 8000000 in
theorem append_any (w : World) (lo j g gs gm : Nat) (d : Dsk) (jr : Jr) (v : Value) (m c : Nat) (A : Option Addr) (b : List UInt8) (h : Jn w lo j g gs gm d jr v) (hb : Bts w [j, g, gs, gm] A m b) (hmc : m ≤ c) (hcm : c ≤ maxLen) :
    Calls Try.prog 10 #[ptr j, .slice A m c] w (Appended w lo j g gs gm v (appE d jr b) (appD d jr b) (appJ d jr b)) := by
  have HJ := Lib.hid h
  have HB := Lib.hid hb
  have HLB := Lib.hid hb.len
  have HMC := Lib.hid (And.intro hmc hcm)
  rcases app_parts d jr b with ⟨hdn, hz, hD, hJ⟩ | ⟨hdn, hl, hz, hD, hJ⟩ | ⟨hdn, hl, hfit, hz, hD, hJ⟩ | ⟨hdn, hl, hfit, hex, hz, hD, hJ⟩ | ⟨hdn, hl, hfit, hex, hz, hD, hJ⟩
  · rw [hz, hD, hJ]
    have HV : Hid (whyJ true [b] = 3) := Lib.hid rfl
    have HW1 := Lib.hid (Frm.alloc_below w (.cells #[.slice A m c] 35))
    have HJ1 := Lib.hid (HJ.out.below HW1.out)
    have HRF := Lib.hid (refuses_any _ lo j g gs gm d jr v 1 1 _ [b] HJ1.out (rowl_one w A c b m HLB.out) (by omega))
    rw [hdn] at HRF
    rw [HV.out] at HRF
    clear h hb hdn hz hD hJ HV
    unfold ptr at *
    go_enter Try.func10, Try.ntmps10
    go_wp2_with fail
    refine HRF.out.mono ?_
    rintro e w1 ⟨rfl, rfl⟩
    go_wp2_with fail
    go_ret
    exact ⟨rfl, v, HJ1.out, (Turn.ofBelow (S := [j, g, gs, gm] ++ v.ownBlock.toList) HW1.out), fun _ hr => .inl hr⟩
  · rw [hz, hD, hJ]
    have HV : Hid (whyJ false [b] = 1) := Lib.hid (by unfold whyJ anyLong; simp [hl])
    have HW1 := Lib.hid (Frm.alloc_below w (.cells #[.slice A m c] 35))
    have HJ1 := Lib.hid (HJ.out.below HW1.out)
    have HRF := Lib.hid (refuses_any _ lo j g gs gm d jr v 1 1 _ [b] HJ1.out (rowl_one w A c b m HLB.out) (by omega))
    rw [hdn] at HRF
    rw [HV.out] at HRF
    clear h hb hdn hl hz hD hJ HV
    unfold ptr at *
    go_enter Try.func10, Try.ntmps10
    go_wp2_with fail
    refine HRF.out.mono ?_
    rintro e w1 ⟨rfl, rfl⟩
    go_wp2_with fail
    go_ret
    exact ⟨rfl, v, HJ1.out, (Turn.ofBelow (S := [j, g, gs, gm] ++ v.ownBlock.toList) HW1.out), fun _ hr => .inl hr⟩
  · rw [hz, hD, hJ]
    have HV : Hid (whyJ false [b] = 0) := Lib.hid (by unfold whyJ anyLong; simp; omega)
    have HW1 := Lib.hid (Frm.alloc_below w (.cells #[.slice A m c] 35))
    have HJ1 := Lib.hid (HJ.out.below HW1.out)
    have HRF := Lib.hid (refuses_any _ lo j g gs gm d jr v 1 1 _ [b] HJ1.out (rowl_one w A c b m HLB.out) (by omega))
    rw [hdn] at HRF
    rw [HV.out] at HRF
    have HDN := Lib.hid hdn
    have hcc := HJ1.out.c
    have hr16 := HJ.out.room16
    rw [hdn] at hcc
    have HLK := Lib.hid (HJ1.out.len)
    obtain ⟨c0, c1, c2, c3, c4⟩ := hcc
    have HOB : Hid ((w.alloc (.cells #[.slice A m c] 35)).heap[j]? = some (.cells #[.pointer (some ⟨g, 0, none⟩), .int .i64 jr.gen, v, .int .i64 (takes jr.gs), .bool false] 51 (0, 0))) := Lib.hid (by have := HJ1.out.hd; rw [hdn] at this; exact this)
    have HRM := Lib.hid (fun u hu => jroom_any (w := u) (lo := lo) (j := j) (g := g) (gs := gs) (gm := gm) (d := d) (jr := jr) (v := v) hu)
    have HTO := Lib.hid (takes_one b)
    have hnd : takes1 b ≤ 16385 := by unfold takes1 need; omega
    have HTB := Lib.hid hnd
    have htb : (takes1 b : Int) ≤ 16385 := by omega
    have htg : (takes jr.gs : Int) ≤ 65536 := by omega
    have hrm2 : (room d.n : Int) ≤ 65536 := by omega
    have HF2 := Lib.hid hfit
    clear c0 c1 c2 c3 c4 hr16 hnd h hb hdn hz hD hJ HV hl hfit
    generalize hu0 : takes jr.gs = u0 at *
    generalize hgen : jr.gen = gen at *
    generalize hR : room d.n = R at *
    generalize takes1 b = tb at *
    clear hu0 hgen hR
    unfold ptr at *
    go_enter Try.func10, Try.ntmps10
    go_wp2_with fail
    refine HRF.out.mono ?_
    rintro e w1 ⟨rfl, rfl⟩
    go_wp2_with fail
    have HJ1 := Lib.hid HJ1.out.drew
    have HOB : Hid (((w.alloc (.cells #[.slice A m c] 35)).drew).heap[j]? = some (.cells #[.pointer (some ⟨g, 0, none⟩), .int .i64 gen, v, .int .i64 u0, .bool false] 51 (0, 0))) := Lib.hid HOB.out
    have HW1 := Lib.hid HW1.out.drew
    refine Frm.wh_start (fun w' => w'.heap[j]? = some (.cells #[.pointer (some ⟨g, 0, none⟩), .int .i64 gen, v, .int .i64 u0, .bool false] 51 (0, 0))) (by kernel_rfl) ?_
    generalize (w.alloc (.cells #[.slice A m c] 35)).drew = w2 at *
    refine Frm.wh_take 0 13 (.slice A m c) rfl rfl (by kernel_rfl) (fun _ _ _ h => h) rfl (HOB.out) (fun w' hw' => ?_) ?_
    · exact rfl
    go_frame
    refine Frm.wh_take 3 16 (.pointer (some ⟨j, 0, none⟩)) rfl rfl (by kernel_rfl) (fun _ _ _ h => h) rfl (HOB.out) (fun w' hw' => ?_) ?_
    · exact rfl
    go_frame
    refine Frm.wh_take 5 18 (.pointer (some ⟨j, 0, none⟩)) rfl rfl (by kernel_rfl) (fun _ _ _ h => h) rfl (HOB.out) (fun w' hw' => ?_) ?_
    · exact rfl
    go_frame
    refine Frm.wh_take 6 19 (.pointer (some ⟨j, 0, none⟩)) rfl rfl (by kernel_rfl) (fun _ _ _ h => h) rfl (HOB.out) (fun w' hw' => ?_) ?_
    · go_simp
    go_frame
    refine Frm.wh_take 7 20 (.pointer (some ⟨j, 3, none⟩)) rfl rfl (by kernel_rfl) (fun _ _ _ h => h) rfl (HOB.out) (fun w' hw' => ?_) ?_
    · go_simp
    go_frame
    refine Frm.wh_take 8 21 (.int .i64 u0) rfl rfl (by kernel_rfl) (fun _ _ _ h => h) rfl (HOB.out) (fun w' hw' => ?_) ?_
    · have q3 : w'.cell? ⟨j, 3, none⟩ = some (.int .i64 u0) := cell_at hw' 3
      go_simp
    go_frame
    have hba := Frm.alloc_below w2 (.cells #[.slice A m c] 35)
    have HTK := Lib.hid (takes_any _ 1 1 _ [b] (rowl_one w2 A c b m HLB.out) (by rw [HTO.out]; have := HTB.out; omega))
    rw [HTO.out] at HTK
    have HOB3 := Lib.hid ((hba.block j (lt_of_heap HOB.out)).trans HOB.out)
    refine Frm.wh_run 1 14 (.slice (some ⟨w2.heap.size, 0, none⟩) 1 1) (w2.alloc (.cells #[.slice A m c] 35)) rfl rfl (by kernel_rfl) rfl ?_ HOB3.out ?_
    · go_simp
    go_frame
    have HJ3 := Lib.hid (HJ1.out.below hba)
    have HW3 := Lib.hid (HW1.out.trans (hba.mono HW1.out.size))
    clear hba
    generalize w2.alloc (.cells #[.slice A m c] 35) = w3 at *
    refine Frm.wh_call 2 15 22 #[.slice (some ⟨w2.heap.size, 0, none⟩) 1 1] rfl rfl (by kernel_rfl) rfl ?_ ?_
    · go_simp
    refine (HTK.out).mono ?_
    rintro e w4 ⟨rfl, rfl⟩
    refine ⟨_, rfl, HOB3.out, ?_⟩
    go_frame
    have HRC := Lib.hid (HRM.out _ HJ3.out)
    refine Frm.wh_call 4 17 19 #[.pointer (some ⟨j, 0, none⟩)] rfl rfl (by kernel_rfl) rfl ?_ ?_
    · go_simp
    refine (HRC.out).mono ?_
    rintro e w5 ⟨rfl, hb5⟩
    have HOB5 := Lib.hid ((hb5.block j (lt_of_heap HOB3.out)).trans HOB3.out)
    have HJ5 := Lib.hid (HJ3.out.below hb5)
    have HW5 := Lib.hid (HW3.out.trans (hb5.mono HW3.out.size))
    clear hb5
    refine ⟨_, rfl, HOB5.out, ?_⟩
    go_frame
    have hw1 : IntKind.i64.wrap ((R : Int) - (u0 : Int)) = (R : Int) - (u0 : Int) := IntWalk.i64_in _ (by omega)
    refine Frm.wh_take 9 22 (.int .i64 ((R : Int) - (u0 : Int))) rfl rfl (by kernel_rfl) (fun _ _ _ h => h) rfl (HOB5.out) (fun w' hw' => ?_) ?_
    · go_simp
    go_frame
    refine Frm.wh_take 10 23 (.bool true) rfl rfl (by kernel_rfl) (fun _ _ _ h => h) rfl (HOB5.out) (fun w' hw' => ?_) ?_
    · have hf := HF2.out
      go_simp
      all_goals omega
    go_frame
    refine wpAnyH_done (by kernel_rfl) ?_ _
    clear hw1
    go_wp2_with fail
    go_ret
    exact ⟨rfl, v, HJ5.out, (Turn.ofBelow (S := [j, g, gs, gm] ++ v.ownBlock.toList) HW5.out), fun _ hr => .inl hr⟩
  · rw [hz, hD, hJ]
    have HV : Hid (whyJ false [b] = 0) := Lib.hid (by unfold whyJ anyLong; simp; omega)
    obtain ⟨Av, cv, hv, _⟩ := h.len
    have HFIT : Hid (takes jr.gs + takes1 b ≤ room d.n) := Lib.hid (by omega)
    subst hv
    have hml := hb.len
    have HXT := Lib.hid (fun u hu hby => extend_any u g gs gm d jr.gen (takes jr.gs) jr.gs.length m c A b hu (by have := h.n8; omega) (by have := h.big; omega) hby (by omega) hmc (by omega))
    have HXN := Lib.hid (extD_n d jr.gen (takes jr.gs) jr.gs.length b)
    have HMB : Hid (m ≤ 1048576) := Lib.hid (by omega)
    rw [hex] at HXT
    clear hex hml
    generalize extD d jr.gen (takes jr.gs) jr.gs.length b = XD at *
    have hgl : (jr.gs.length : Int) ≤ 65536 := by have := takes_length jr.gs; have := HJ.out.room16.2; omega
    have HW1 := Lib.hid (Frm.alloc_below w (.cells #[.slice A m c] 35))
    have HJ1 := Lib.hid (HJ.out.below HW1.out)
    have HRF := Lib.hid (refuses_any _ lo j g gs gm d jr (.slice Av jr.gs.length cv) 1 1 _ [b] HJ1.out (rowl_one w A c b m HLB.out) (by omega))
    rw [hdn] at HRF
    rw [HV.out] at HRF
    have HDN := Lib.hid hdn
    have hcc := HJ1.out.c
    have hr16 := HJ.out.room16
    rw [hdn] at hcc
    have HLK := Lib.hid (HJ1.out.len)
    obtain ⟨c0, c1, c2, c3, c4⟩ := hcc
    have HOB : Hid ((w.alloc (.cells #[.slice A m c] 35)).heap[j]? = some (.cells #[.pointer (some ⟨g, 0, none⟩), .int .i64 jr.gen, .slice Av jr.gs.length cv, .int .i64 (takes jr.gs), .bool false] 51 (0, 0))) := Lib.hid (by have := HJ1.out.hd; rw [hdn] at this; exact this)
    have HRM := Lib.hid (fun u hu => jroom_any (w := u) (lo := lo) (j := j) (g := g) (gs := gs) (gm := gm) (d := d) (jr := jr) (v := .slice Av jr.gs.length cv) hu)
    have HTO := Lib.hid (takes_one b)
    have hnd : takes1 b ≤ 16385 := by unfold takes1 need; omega
    have HTB := Lib.hid hnd
    have htb : (takes1 b : Int) ≤ 16385 := by omega
    have htg : (takes jr.gs : Int) ≤ 65536 := by omega
    have hrm2 : (room d.n : Int) ≤ 65536 := by omega
    have HF2 := Lib.hid hfit
    clear c0 c1 c2 c3 c4 hr16 hnd h hb hdn hz hD hJ HV hl hfit
    generalize hu0 : takes jr.gs = u0 at *
    generalize hgen : jr.gen = gen at *
    generalize hR : room d.n = R at *
    generalize htb9 : takes1 b = tb at *
    generalize hN : jr.gs.length = N at *
    have HU0 := Lib.hid hu0
    have HGE := Lib.hid hgen
    have HRR := Lib.hid hR
    have HTB9 := Lib.hid htb9
    clear hu0 hgen hR hN htb9
    unfold hv at HXT
    unfold ptr at *
    go_enter Try.func10, Try.ntmps10
    go_wp2_with fail
    refine HRF.out.mono ?_
    rintro e w1 ⟨rfl, rfl⟩
    go_wp2_with fail
    have HJ1 := Lib.hid HJ1.out.drew
    have HOB : Hid (((w.alloc (.cells #[.slice A m c] 35)).drew).heap[j]? = some (.cells #[.pointer (some ⟨g, 0, none⟩), .int .i64 gen, .slice Av N cv, .int .i64 u0, .bool false] 51 (0, 0))) := Lib.hid HOB.out
    have HW1 := Lib.hid HW1.out.drew
    refine Frm.wh_start (fun w' => w'.heap[j]? = some (.cells #[.pointer (some ⟨g, 0, none⟩), .int .i64 gen, .slice Av N cv, .int .i64 u0, .bool false] 51 (0, 0))) (by kernel_rfl) ?_
    generalize (w.alloc (.cells #[.slice A m c] 35)).drew = w2 at *
    refine Frm.wh_take 0 13 (.slice A m c) rfl rfl (by kernel_rfl) (fun _ _ _ h => h) rfl (HOB.out) (fun w' hw' => ?_) ?_
    · exact rfl
    go_frame
    refine Frm.wh_take 3 16 (.pointer (some ⟨j, 0, none⟩)) rfl rfl (by kernel_rfl) (fun _ _ _ h => h) rfl (HOB.out) (fun w' hw' => ?_) ?_
    · exact rfl
    go_frame
    refine Frm.wh_take 5 18 (.pointer (some ⟨j, 0, none⟩)) rfl rfl (by kernel_rfl) (fun _ _ _ h => h) rfl (HOB.out) (fun w' hw' => ?_) ?_
    · exact rfl
    go_frame
    refine Frm.wh_take 6 19 (.pointer (some ⟨j, 0, none⟩)) rfl rfl (by kernel_rfl) (fun _ _ _ h => h) rfl (HOB.out) (fun w' hw' => ?_) ?_
    · go_simp
    go_frame
    refine Frm.wh_take 7 20 (.pointer (some ⟨j, 3, none⟩)) rfl rfl (by kernel_rfl) (fun _ _ _ h => h) rfl (HOB.out) (fun w' hw' => ?_) ?_
    · go_simp
    go_frame
    refine Frm.wh_take 8 21 (.int .i64 u0) rfl rfl (by kernel_rfl) (fun _ _ _ h => h) rfl (HOB.out) (fun w' hw' => ?_) ?_
    · have q3 : w'.cell? ⟨j, 3, none⟩ = some (.int .i64 u0) := cell_at hw' 3
      go_simp
    go_frame
    have hba := Frm.alloc_below w2 (.cells #[.slice A m c] 35)
    have HTK := Lib.hid (takes_any _ 1 1 _ [b] (rowl_one w2 A c b m HLB.out) (by rw [HTO.out]; have := HTB.out; omega))
    rw [HTO.out] at HTK
    have HOB3 := Lib.hid ((hba.block j (lt_of_heap HOB.out)).trans HOB.out)
    refine Frm.wh_run 1 14 (.slice (some ⟨w2.heap.size, 0, none⟩) 1 1) (w2.alloc (.cells #[.slice A m c] 35)) rfl rfl (by kernel_rfl) rfl ?_ HOB3.out ?_
    · go_simp
    go_frame
    have HJ3 := Lib.hid (HJ1.out.below hba)
    have HW3 := Lib.hid (HW1.out.trans (hba.mono HW1.out.size))
    clear hba
    generalize w2.alloc (.cells #[.slice A m c] 35) = w3 at *
    refine Frm.wh_call 2 15 22 #[.slice (some ⟨w2.heap.size, 0, none⟩) 1 1] rfl rfl (by kernel_rfl) rfl ?_ ?_
    · go_simp
    refine (HTK.out).mono ?_
    rintro e w4 ⟨rfl, rfl⟩
    refine ⟨_, rfl, HOB3.out, ?_⟩
    go_frame
    have HRC := Lib.hid (HRM.out _ HJ3.out)
    refine Frm.wh_call 4 17 19 #[.pointer (some ⟨j, 0, none⟩)] rfl rfl (by kernel_rfl) rfl ?_ ?_
    · go_simp
    refine (HRC.out).mono ?_
    rintro e w5 ⟨rfl, hb5⟩
    have HOB5 := Lib.hid ((hb5.block j (lt_of_heap HOB3.out)).trans HOB3.out)
    have HJ5 := Lib.hid (HJ3.out.below hb5)
    have HW5 := Lib.hid (HW3.out.trans (hb5.mono HW3.out.size))
    clear hb5
    refine ⟨_, rfl, HOB5.out, ?_⟩
    go_frame
    have hw1 : IntKind.i64.wrap ((R : Int) - (u0 : Int)) = (R : Int) - (u0 : Int) := IntWalk.i64_in _ (by omega)
    refine Frm.wh_take 9 22 (.int .i64 ((R : Int) - (u0 : Int))) rfl rfl (by kernel_rfl) (fun _ _ _ h => h) rfl (HOB5.out) (fun w' hw' => ?_) ?_
    · go_simp
    go_frame
    refine Frm.wh_take 10 23 (.bool false) rfl rfl (by kernel_rfl) (fun _ _ _ h => h) rfl (HOB5.out) (fun w' hw' => ?_) ?_
    · have hf := HF2.out
      go_simp
      all_goals omega
    go_frame
    refine wpAnyH_done (by kernel_rfl) ?_ _
    clear hw1
    go_wp2_with fail
    have HJ5 := Lib.hid HJ5.out.drew
    have HOB5 : Hid (w5.drew.heap[j]? = some (.cells #[.pointer (some ⟨g, 0, none⟩), .int .i64 gen, .slice Av N cv, .int .i64 u0, .bool false] 51 (0, 0))) := Lib.hid HOB5.out
    have HW5 := Lib.hid HW5.out.drew
    refine Frm.wh_start (fun w' => w'.heap[j]? = some (.cells #[.pointer (some ⟨g, 0, none⟩), .int .i64 gen, .slice Av N cv, .int .i64 u0, .bool false] 51 (0, 0))) (by kernel_rfl) ?_
    generalize w5.drew = w6 at *
    refine Frm.wh_take 0 24 (.pointer (some ⟨j, 0, none⟩)) rfl rfl (by kernel_rfl) (fun _ _ _ h => h) rfl (HOB5.out) (fun w' hw' => ?_) ?_
    · exact rfl
    go_frame
    refine Frm.wh_take 1 25 (.pointer (some ⟨j, 0, none⟩)) rfl rfl (by kernel_rfl) (fun _ _ _ h => h) rfl (HOB5.out) (fun w' hw' => ?_) ?_
    · go_simp
    go_frame
    refine Frm.wh_take 2 26 (.pointer (some ⟨j, 0, none⟩)) rfl rfl (by kernel_rfl) (fun _ _ _ h => h) rfl (HOB5.out) (fun w' hw' => ?_) ?_
    · go_simp
    go_frame
    refine Frm.wh_take 3 27 (.agg #[.pointer (some ⟨g, 0, none⟩), .int .i64 gen]) rfl rfl (by kernel_rfl) (fun _ _ _ h => h) rfl (HOB5.out) (fun w' hw' => ?_) ?_
    · have q0 : w'.cell? ⟨j, 0, none⟩ = some (.pointer (some ⟨g, 0, none⟩)) := cell_at hw' 0
      have q1 : w'.cell? ⟨j, 1, none⟩ = some (.int .i64 gen) := cell_at hw' 1
      go_simp
    go_frame
    refine Frm.wh_take 4 28 (.pointer (some ⟨j, 0, none⟩)) rfl rfl (by kernel_rfl) (fun _ _ _ h => h) rfl (HOB5.out) (fun w' hw' => ?_) ?_
    · exact rfl
    go_frame
    refine Frm.wh_take 5 29 (.pointer (some ⟨j, 0, none⟩)) rfl rfl (by kernel_rfl) (fun _ _ _ h => h) rfl (HOB5.out) (fun w' hw' => ?_) ?_
    · go_simp
    go_frame
    refine Frm.wh_take 6 30 (.pointer (some ⟨j, 3, none⟩)) rfl rfl (by kernel_rfl) (fun _ _ _ h => h) rfl (HOB5.out) (fun w' hw' => ?_) ?_
    · go_simp
    go_frame
    refine Frm.wh_take 7 31 (.int .i64 u0) rfl rfl (by kernel_rfl) (fun _ _ _ h => h) rfl (HOB5.out) (fun w' hw' => ?_) ?_
    · have q3 : w'.cell? ⟨j, 3, none⟩ = some (.int .i64 u0) := cell_at hw' 3
      go_simp
    go_frame
    refine Frm.wh_take 8 32 (.pointer (some ⟨j, 0, none⟩)) rfl rfl (by kernel_rfl) (fun _ _ _ h => h) rfl (HOB5.out) (fun w' hw' => ?_) ?_
    · exact rfl
    go_frame
    refine Frm.wh_take 9 33 (.pointer (some ⟨j, 0, none⟩)) rfl rfl (by kernel_rfl) (fun _ _ _ h => h) rfl (HOB5.out) (fun w' hw' => ?_) ?_
    · go_simp
    go_frame
    refine Frm.wh_take 10 34 (.pointer (some ⟨j, 2, none⟩)) rfl rfl (by kernel_rfl) (fun _ _ _ h => h) rfl (HOB5.out) (fun w' hw' => ?_) ?_
    · go_simp
    go_frame
    refine Frm.wh_take 11 35 (.slice Av N cv) rfl rfl (by kernel_rfl) (fun _ _ _ h => h) rfl (HOB5.out) (fun w' hw' => ?_) ?_
    · have q2 : w'.cell? ⟨j, 2, none⟩ = some (.slice Av N cv) := cell_at hw' 2
      go_simp
    go_frame
    refine Frm.wh_take 12 36 (.int .i64 N) rfl rfl (by kernel_rfl) (fun _ _ _ h => h) rfl (HOB5.out) (fun w' hw' => ?_) ?_
    · go_simp
    go_frame
    refine Frm.wh_take 13 37 (.slice A m c) rfl rfl (by kernel_rfl) (fun _ _ _ h => h) rfl (HOB5.out) (fun w' hw' => ?_) ?_
    · exact rfl
    go_frame
    have hbt := HB.out.below (HW5.out)
    have HB6 := Lib.hid hbt
    clear hbt
    have HC := Lib.hid (HXT.out w6 HJ5.out.disk HB6.out.byts)
    refine Frm.wh_call 14 38 29 #[.agg #[.pointer (some ⟨g, 0, none⟩), .int .i64 gen], .int .i64 u0, .int .i64 N, .slice A m c] rfl rfl (by kernel_rfl) rfl ?_ ?_
    · go_simp
    refine (HC.out).mono ?_
    rintro e w7 ⟨rfl, hdk, ht⟩
    have HOB7 : Hid (w7.heap[j]? = some (.cells #[.pointer (some ⟨g, 0, none⟩), .int .i64 gen, .slice Av N cv, .int .i64 u0, .bool false] 51 (0, 0))) := Lib.hid ((ht.block j (lt_of_heap HOB5.out) HJ5.out.apart).trans HOB5.out)
    have HJ7 := Lib.hid (HJ5.out.disked hdk ht HXN.out)
    have HT7 := Lib.hid ht
    have HB7 := Lib.hid (HB6.out.turn ht (fun k hk => .inl (List.mem_cons_of_mem _ hk)))
    clear hdk ht HC HXT
    refine ⟨_, rfl, HOB7.out, ?_⟩
    go_frame
    have he : err false = 3 := rfl
    rw [he]
    clear he
    refine Frm.wh_take 15 39 (.bool true) rfl rfl (by kernel_rfl) (fun _ _ _ h => h) rfl (HOB7.out) (fun w' hw' => ?_) ?_
    · go_simp
    go_frame
    refine wpAnyH_done (by kernel_rfl) ?_ _
    have HFL := Lib.hid (fall_any w7 lo j g gs gm XD jr _ HJ7.out)
    unfold ptr at HFL
    go_wp2_with fail
    refine HFL.out.mono ?_
    rintro e w8 ⟨rfl, hj8, ht8⟩
    have H8 := Lib.hid (And.intro hj8 ht8)
    clear hj8 ht8
    go_wp2_with fail
    go_ret
    rw [← HGE.out]
    exact ⟨rfl, _, H8.out.1, ((Turn.ofBelow HW5.out).trans (HT7.out.more (fun k hk => List.mem_append_left _ (List.mem_cons_of_mem _ hk)))).trans (H8.out.2.more (fun k hk => List.mem_append_left _ (by simp at hk; simp [hk]))), fun _ hr => .inl hr⟩
  · rw [hz, hD, hJ]
    have HV : Hid (whyJ false [b] = 0) := Lib.hid (by unfold whyJ anyLong; simp; omega)
    obtain ⟨Av, cv, hv, _⟩ := h.len
    have HFIT : Hid (takes jr.gs + takes1 b ≤ room d.n) := Lib.hid (by omega)
    subst hv
    have hml := hb.len
    have HXT := Lib.hid (fun u hu hby => extend_any u g gs gm d jr.gen (takes jr.gs) jr.gs.length m c A b hu (by have := h.n8; omega) (by have := h.big; omega) hby (by omega) hmc (by omega))
    have HXN := Lib.hid (extD_n d jr.gen (takes jr.gs) jr.gs.length b)
    have HMB : Hid (m ≤ 1048576) := Lib.hid (by omega)
    rw [hex] at HXT
    clear hex hml
    generalize extD d jr.gen (takes jr.gs) jr.gs.length b = XD at *
    have hgl : (jr.gs.length : Int) ≤ 65536 := by have := takes_length jr.gs; have := HJ.out.room16.2; omega
    have HW1 := Lib.hid (Frm.alloc_below w (.cells #[.slice A m c] 35))
    have HJ1 := Lib.hid (HJ.out.below HW1.out)
    have HRF := Lib.hid (refuses_any _ lo j g gs gm d jr (.slice Av jr.gs.length cv) 1 1 _ [b] HJ1.out (rowl_one w A c b m HLB.out) (by omega))
    rw [hdn] at HRF
    rw [HV.out] at HRF
    have HDN := Lib.hid hdn
    have hcc := HJ1.out.c
    have hr16 := HJ.out.room16
    rw [hdn] at hcc
    have HLK := Lib.hid (HJ1.out.len)
    obtain ⟨c0, c1, c2, c3, c4⟩ := hcc
    have HOB : Hid ((w.alloc (.cells #[.slice A m c] 35)).heap[j]? = some (.cells #[.pointer (some ⟨g, 0, none⟩), .int .i64 jr.gen, .slice Av jr.gs.length cv, .int .i64 (takes jr.gs), .bool false] 51 (0, 0))) := Lib.hid (by have := HJ1.out.hd; rw [hdn] at this; exact this)
    have HRM := Lib.hid (fun u hu => jroom_any (w := u) (lo := lo) (j := j) (g := g) (gs := gs) (gm := gm) (d := d) (jr := jr) (v := .slice Av jr.gs.length cv) hu)
    have HTO := Lib.hid (takes_one b)
    have hnd : takes1 b ≤ 16385 := by unfold takes1 need; omega
    have HTB := Lib.hid hnd
    have htb : (takes1 b : Int) ≤ 16385 := by omega
    have htg : (takes jr.gs : Int) ≤ 65536 := by omega
    have hrm2 : (room d.n : Int) ≤ 65536 := by omega
    have HF2 := Lib.hid hfit
    clear c0 c1 c2 c3 c4 hr16 hnd h hb hdn hz hD hJ HV hl hfit
    generalize hu0 : takes jr.gs = u0 at *
    generalize hgen : jr.gen = gen at *
    generalize hR : room d.n = R at *
    generalize htb9 : takes1 b = tb at *
    generalize hN : jr.gs.length = N at *
    have HU0 := Lib.hid hu0
    have HGE := Lib.hid hgen
    have HRR := Lib.hid hR
    have HTB9 := Lib.hid htb9
    clear hu0 hgen hR hN htb9
    unfold hv at HXT
    unfold ptr at *
    go_enter Try.func10, Try.ntmps10
    go_wp2_with fail
    refine HRF.out.mono ?_
    rintro e w1 ⟨rfl, rfl⟩
    go_wp2_with fail
    have HJ1 := Lib.hid HJ1.out.drew
    have HOB : Hid (((w.alloc (.cells #[.slice A m c] 35)).drew).heap[j]? = some (.cells #[.pointer (some ⟨g, 0, none⟩), .int .i64 gen, .slice Av N cv, .int .i64 u0, .bool false] 51 (0, 0))) := Lib.hid HOB.out
    have HW1 := Lib.hid HW1.out.drew
    refine Frm.wh_start (fun w' => w'.heap[j]? = some (.cells #[.pointer (some ⟨g, 0, none⟩), .int .i64 gen, .slice Av N cv, .int .i64 u0, .bool false] 51 (0, 0))) (by kernel_rfl) ?_
    generalize (w.alloc (.cells #[.slice A m c] 35)).drew = w2 at *
    refine Frm.wh_take 0 13 (.slice A m c) rfl rfl (by kernel_rfl) (fun _ _ _ h => h) rfl (HOB.out) (fun w' hw' => ?_) ?_
    · exact rfl
    go_frame
    refine Frm.wh_take 3 16 (.pointer (some ⟨j, 0, none⟩)) rfl rfl (by kernel_rfl) (fun _ _ _ h => h) rfl (HOB.out) (fun w' hw' => ?_) ?_
    · exact rfl
    go_frame
    refine Frm.wh_take 5 18 (.pointer (some ⟨j, 0, none⟩)) rfl rfl (by kernel_rfl) (fun _ _ _ h => h) rfl (HOB.out) (fun w' hw' => ?_) ?_
    · exact rfl
    go_frame
    refine Frm.wh_take 6 19 (.pointer (some ⟨j, 0, none⟩)) rfl rfl (by kernel_rfl) (fun _ _ _ h => h) rfl (HOB.out) (fun w' hw' => ?_) ?_
    · go_simp
    go_frame
    refine Frm.wh_take 7 20 (.pointer (some ⟨j, 3, none⟩)) rfl rfl (by kernel_rfl) (fun _ _ _ h => h) rfl (HOB.out) (fun w' hw' => ?_) ?_
    · go_simp
    go_frame
    refine Frm.wh_take 8 21 (.int .i64 u0) rfl rfl (by kernel_rfl) (fun _ _ _ h => h) rfl (HOB.out) (fun w' hw' => ?_) ?_
    · have q3 : w'.cell? ⟨j, 3, none⟩ = some (.int .i64 u0) := cell_at hw' 3
      go_simp
    go_frame
    have hba := Frm.alloc_below w2 (.cells #[.slice A m c] 35)
    have HTK := Lib.hid (takes_any _ 1 1 _ [b] (rowl_one w2 A c b m HLB.out) (by rw [HTO.out]; have := HTB.out; omega))
    rw [HTO.out] at HTK
    have HOB3 := Lib.hid ((hba.block j (lt_of_heap HOB.out)).trans HOB.out)
    refine Frm.wh_run 1 14 (.slice (some ⟨w2.heap.size, 0, none⟩) 1 1) (w2.alloc (.cells #[.slice A m c] 35)) rfl rfl (by kernel_rfl) rfl ?_ HOB3.out ?_
    · go_simp
    go_frame
    have HJ3 := Lib.hid (HJ1.out.below hba)
    have HW3 := Lib.hid (HW1.out.trans (hba.mono HW1.out.size))
    clear hba
    generalize w2.alloc (.cells #[.slice A m c] 35) = w3 at *
    refine Frm.wh_call 2 15 22 #[.slice (some ⟨w2.heap.size, 0, none⟩) 1 1] rfl rfl (by kernel_rfl) rfl ?_ ?_
    · go_simp
    refine (HTK.out).mono ?_
    rintro e w4 ⟨rfl, rfl⟩
    refine ⟨_, rfl, HOB3.out, ?_⟩
    go_frame
    have HRC := Lib.hid (HRM.out _ HJ3.out)
    refine Frm.wh_call 4 17 19 #[.pointer (some ⟨j, 0, none⟩)] rfl rfl (by kernel_rfl) rfl ?_ ?_
    · go_simp
    refine (HRC.out).mono ?_
    rintro e w5 ⟨rfl, hb5⟩
    have HOB5 := Lib.hid ((hb5.block j (lt_of_heap HOB3.out)).trans HOB3.out)
    have HJ5 := Lib.hid (HJ3.out.below hb5)
    have HW5 := Lib.hid (HW3.out.trans (hb5.mono HW3.out.size))
    clear hb5
    refine ⟨_, rfl, HOB5.out, ?_⟩
    go_frame
    have hw1 : IntKind.i64.wrap ((R : Int) - (u0 : Int)) = (R : Int) - (u0 : Int) := IntWalk.i64_in _ (by omega)
    refine Frm.wh_take 9 22 (.int .i64 ((R : Int) - (u0 : Int))) rfl rfl (by kernel_rfl) (fun _ _ _ h => h) rfl (HOB5.out) (fun w' hw' => ?_) ?_
    · go_simp
    go_frame
    refine Frm.wh_take 10 23 (.bool false) rfl rfl (by kernel_rfl) (fun _ _ _ h => h) rfl (HOB5.out) (fun w' hw' => ?_) ?_
    · have hf := HF2.out
      go_simp
      all_goals omega
    go_frame
    refine wpAnyH_done (by kernel_rfl) ?_ _
    clear hw1
    go_wp2_with fail
    have HJ5 := Lib.hid HJ5.out.drew
    have HOB5 : Hid (w5.drew.heap[j]? = some (.cells #[.pointer (some ⟨g, 0, none⟩), .int .i64 gen, .slice Av N cv, .int .i64 u0, .bool false] 51 (0, 0))) := Lib.hid HOB5.out
    have HW5 := Lib.hid HW5.out.drew
    refine Frm.wh_start (fun w' => w'.heap[j]? = some (.cells #[.pointer (some ⟨g, 0, none⟩), .int .i64 gen, .slice Av N cv, .int .i64 u0, .bool false] 51 (0, 0))) (by kernel_rfl) ?_
    generalize w5.drew = w6 at *
    refine Frm.wh_take 0 24 (.pointer (some ⟨j, 0, none⟩)) rfl rfl (by kernel_rfl) (fun _ _ _ h => h) rfl (HOB5.out) (fun w' hw' => ?_) ?_
    · exact rfl
    go_frame
    refine Frm.wh_take 1 25 (.pointer (some ⟨j, 0, none⟩)) rfl rfl (by kernel_rfl) (fun _ _ _ h => h) rfl (HOB5.out) (fun w' hw' => ?_) ?_
    · go_simp
    go_frame
    refine Frm.wh_take 2 26 (.pointer (some ⟨j, 0, none⟩)) rfl rfl (by kernel_rfl) (fun _ _ _ h => h) rfl (HOB5.out) (fun w' hw' => ?_) ?_
    · go_simp
    go_frame
    refine Frm.wh_take 3 27 (.agg #[.pointer (some ⟨g, 0, none⟩), .int .i64 gen]) rfl rfl (by kernel_rfl) (fun _ _ _ h => h) rfl (HOB5.out) (fun w' hw' => ?_) ?_
    · have q0 : w'.cell? ⟨j, 0, none⟩ = some (.pointer (some ⟨g, 0, none⟩)) := cell_at hw' 0
      have q1 : w'.cell? ⟨j, 1, none⟩ = some (.int .i64 gen) := cell_at hw' 1
      go_simp
    go_frame
    refine Frm.wh_take 4 28 (.pointer (some ⟨j, 0, none⟩)) rfl rfl (by kernel_rfl) (fun _ _ _ h => h) rfl (HOB5.out) (fun w' hw' => ?_) ?_
    · exact rfl
    go_frame
    refine Frm.wh_take 5 29 (.pointer (some ⟨j, 0, none⟩)) rfl rfl (by kernel_rfl) (fun _ _ _ h => h) rfl (HOB5.out) (fun w' hw' => ?_) ?_
    · go_simp
    go_frame
    refine Frm.wh_take 6 30 (.pointer (some ⟨j, 3, none⟩)) rfl rfl (by kernel_rfl) (fun _ _ _ h => h) rfl (HOB5.out) (fun w' hw' => ?_) ?_
    · go_simp
    go_frame
    refine Frm.wh_take 7 31 (.int .i64 u0) rfl rfl (by kernel_rfl) (fun _ _ _ h => h) rfl (HOB5.out) (fun w' hw' => ?_) ?_
    · have q3 : w'.cell? ⟨j, 3, none⟩ = some (.int .i64 u0) := cell_at hw' 3
      go_simp
    go_frame
    refine Frm.wh_take 8 32 (.pointer (some ⟨j, 0, none⟩)) rfl rfl (by kernel_rfl) (fun _ _ _ h => h) rfl (HOB5.out) (fun w' hw' => ?_) ?_
    · exact rfl
    go_frame
    refine Frm.wh_take 9 33 (.pointer (some ⟨j, 0, none⟩)) rfl rfl (by kernel_rfl) (fun _ _ _ h => h) rfl (HOB5.out) (fun w' hw' => ?_) ?_
    · go_simp
    go_frame
    refine Frm.wh_take 10 34 (.pointer (some ⟨j, 2, none⟩)) rfl rfl (by kernel_rfl) (fun _ _ _ h => h) rfl (HOB5.out) (fun w' hw' => ?_) ?_
    · go_simp
    go_frame
    refine Frm.wh_take 11 35 (.slice Av N cv) rfl rfl (by kernel_rfl) (fun _ _ _ h => h) rfl (HOB5.out) (fun w' hw' => ?_) ?_
    · have q2 : w'.cell? ⟨j, 2, none⟩ = some (.slice Av N cv) := cell_at hw' 2
      go_simp
    go_frame
    refine Frm.wh_take 12 36 (.int .i64 N) rfl rfl (by kernel_rfl) (fun _ _ _ h => h) rfl (HOB5.out) (fun w' hw' => ?_) ?_
    · go_simp
    go_frame
    refine Frm.wh_take 13 37 (.slice A m c) rfl rfl (by kernel_rfl) (fun _ _ _ h => h) rfl (HOB5.out) (fun w' hw' => ?_) ?_
    · exact rfl
    go_frame
    have hbt := HB.out.below (HW5.out)
    have HB6 := Lib.hid hbt
    clear hbt
    have HC := Lib.hid (HXT.out w6 HJ5.out.disk HB6.out.byts)
    refine Frm.wh_call 14 38 29 #[.agg #[.pointer (some ⟨g, 0, none⟩), .int .i64 gen], .int .i64 u0, .int .i64 N, .slice A m c] rfl rfl (by kernel_rfl) rfl ?_ ?_
    · go_simp
    refine (HC.out).mono ?_
    rintro e w7 ⟨rfl, hdk, ht⟩
    have HOB7 : Hid (w7.heap[j]? = some (.cells #[.pointer (some ⟨g, 0, none⟩), .int .i64 gen, .slice Av N cv, .int .i64 u0, .bool false] 51 (0, 0))) := Lib.hid ((ht.block j (lt_of_heap HOB5.out) HJ5.out.apart).trans HOB5.out)
    have HJ7 := Lib.hid (HJ5.out.disked hdk ht HXN.out)
    have HT7 := Lib.hid ht
    have HB7 := Lib.hid (HB6.out.turn ht (fun k hk => .inl (List.mem_cons_of_mem _ hk)))
    clear hdk ht HC HXT
    refine ⟨_, rfl, HOB7.out, ?_⟩
    go_frame
    have he : err true = 0 := rfl
    rw [he]
    clear he
    refine Frm.wh_take 15 39 (.bool false) rfl rfl (by kernel_rfl) (fun _ _ _ h => h) rfl (HOB7.out) (fun w' hw' => ?_) ?_
    · go_simp
    go_frame
    refine wpAnyH_done (by kernel_rfl) ?_ _
    have HCL := Lib.hid (Cod.clone_any w7 w7.heap.size m c A b HB7.out.byts (Nat.le_refl _) (by have := HMB.out; omega))
    go_wp2_with fail
    refine HCL.out.mono ?_
    rintro e w8 ⟨A8, c8, rfl, ho8, hb8⟩
    have HX8 : Hid (It.ok w8 lo ⟨A8, m, c8, b⟩) := Lib.hid (by
      obtain ⟨A', c', e', h1, h2⟩ := ho8.form
      injection e' with _ _ e3
      subst e3
      exact ⟨ho8.byts, h1, h2, (Frm.own_above ho8).mono HJ7.out.le, Frm.own_u8 ho8⟩)
    have HJ8 := Lib.hid (HJ7.out.below hb8)
    have HB8 := Lib.hid hb8
    clear ho8 hb8
    have HAD := Lib.hid (add_any w8 lo j g gs gm XD jr _ ⟨A8, m, c8, b⟩ HJ8.out HX8.out (by rw [HXN.out, HU0.out, HRR.out]; show u0 + takes1 b ≤ R; rw [HTB9.out]; exact HFIT.out))
    unfold ptr It.val at HAD
    dsimp only at HAD
    go_wp2_with fail
    refine HAD.out.mono ?_
    rintro e w9 ⟨rfl, v9, hj9, ht9, hv9⟩
    have H9 := Lib.hid (And.intro hj9 (And.intro ht9 hv9))
    clear hj9 ht9 hv9
    go_wp2_with fail
    go_ret
    rw [← HGE.out]
    refine ⟨rfl, v9, H9.out.1, (((Turn.ofBelow HW5.out).trans (HT7.out.more (fun k hk => List.mem_append_left _ (List.mem_cons_of_mem _ hk)))).trans (Turn.ofBelow HB8.out)).trans (H9.out.2.1.more (fun k hk => ?_)), ?_⟩
    · rcases List.mem_cons.1 hk with rfl | hk
      · simp
      · exact List.mem_append_right _ hk
    · intro q hq
      rcases H9.out.2.2 with e | ⟨r, e, hr⟩
      · exact .inl (by rw [← e]; exact hq)
      · rw [e] at hq
        cases hq
        exact .inr (by have := HW5.out.size; have := HT7.out.size; have := HB8.out.size; omega)
end Go.Proofs.Ytgjdgmpjbpnjbaa.Jou
