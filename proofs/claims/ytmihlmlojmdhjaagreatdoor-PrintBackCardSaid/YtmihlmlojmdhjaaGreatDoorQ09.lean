/-
  yieldStatements: statements and all that stand in them, one behind the other, each handed to a round. Conditions: the trees lie in memory below lo; a round keeps what lies below lo, and all cells from hi on.
-/
import Derived.Test.YtmihlmlojmdhjaaGreatDoorQ08
namespace Go.Proofs.YtmihlmlojmdhjaaGreatDoor.Tre
open Go.RowKit
set_option maxRecDepth 100000
theorem sizeB_take (x : List St) (j : Nat) (a : St) (h : x[j]? = some a) : sizeB (x.take (j + 1)) = sizeB (x.take j) + sizeS a := by
  rw [List.take_add_one, h]
  simp [sizeB, sizeS, flatB]
theorem flatB_at : ∀ (x : List St) (j i : Nat) (a y : St), x[j]? = some a → (flatS a)[i]? = some y → (flatB x)[sizeB (x.take j) + i]? = some y
  | [], j, i, a, y, h, _ => by simp at h
  | b :: r, 0, i, a, y, h, hy => by
    obtain rfl : b = a := by simpa using h
    rw [flatB_cons, List.getElem?_append_left (by have := (List.getElem?_eq_some_iff.1 hy).1; simp [sizeB, flatB]; omega)]
    simpa [sizeB, flatB] using hy
  | b :: r, j + 1, i, a, y, h, hy => by
    have ih := flatB_at r j i a y (by simpa using h) hy
    have e : sizeB (List.take (j + 1) (b :: r)) = sizeS b + sizeB (r.take j) := by rw [List.take_succ_cons, sizeB_cons]
    rw [flatB_cons, e, List.getElem?_append_right (by unfold sizeS; omega), show sizeS b + sizeB (r.take j) + i - (flatS b).length = sizeB (r.take j) + i by unfold sizeS; omega]
    exact ih
/-- What a list of nodes holds from place k on. -/
def FromB (L : List St) (k : Nat) (x : List St) : Prop := ∀ i y, (flatB x)[i]? = some y → L[k + i]? = some y
section
variable {L : List St} {k : Nat} {x : List St} {j : Nat} {s : St}
theorem FromB.at_ (h : FromB L k x) (hs : x[j]? = some s) : L[k + sizeB (x.take j)]? = some s := by
  have := h (sizeB (x.take j) + 0) s (flatB_at x j 0 s s hs (by rw [flatS_eq]; rfl))
  rwa [Nat.add_zero] at this
theorem FromB.body (h : FromB L k x) (hs : x[j]? = some s) : FromB L (k + sizeB (x.take j) + 1) s.b := fun i y hy => by
  have := h (sizeB (x.take j) + (i + 1)) y (flatB_at x j (i + 1) s y hs (by rw [flatS_eq, List.getElem?_cons_succ, List.getElem?_append_left (List.getElem?_eq_some_iff.1 hy).1]; exact hy))
  rwa [show k + (sizeB (x.take j) + (i + 1)) = k + sizeB (x.take j) + 1 + i by omega] at this
theorem FromB.other (h : FromB L k x) (hs : x[j]? = some s) : FromB L (k + sizeB (x.take j) + 1 + sizeB s.b) s.b2 := fun i y hy => by
  have := h (sizeB (x.take j) + (sizeB s.b + i + 1)) y (flatB_at x j _ s y hs (by rw [flatS_eq, List.getElem?_cons_succ, List.getElem?_append_right (by unfold sizeB; omega), show sizeB s.b + i - (flatB s.b).length = i by unfold sizeB; omega]; exact hy))
  rwa [show k + (sizeB (x.take j) + (sizeB s.b + i + 1)) = k + sizeB (x.take j) + 1 + sizeB s.b + i by omega] at this
end
set_option maxHeartbeats 4000000 in
theorem stmts_step (w0 : World) (S : Nat → Prop) (hi top l B : Nat) (h00 : ∀ b, S b → w0.heap.size ≤ b ∧ b < hi) (J : Nat → World → Prop) (Jx : World → Prop) (hJ : Mine B J) (x : List St) (A : Option Addr) (c k : Nat) (hrow : Row 9 stC w0 A x) (hlen : x.length ≤ most)
    (hY : ∀ (j : Nat) (s : St), x[j]? = some s → ∀ m W, J (k + sizeB (x.take j)) W → YieldAt Fence.wide m Tryz.prog l #[stV s] W (Goes S top J Jx (k + sizeB (x.take j) + 1) W))
    (hP : ∀ (j : Nat) (s : St), x[j]? = some s → ∀ m W, hi ≤ W.heap.size → Low w0 W → J (k + sizeB (x.take j) + 1) W → CallsIn Fence.wide m Tryz.prog 98 #[.slice s.a s.b.length s.c, .func (.yield l) #[] #[]] W (Goes S top J Jx (k + sizeB (x.take j) + 1 + sizeB s.b) W))
    (hP2 : ∀ (j : Nat) (s : St), x[j]? = some s → ∀ m W, hi ≤ W.heap.size → Low w0 W → J (k + sizeB (x.take j) + 1 + sizeB s.b) W → CallsIn Fence.wide m Tryz.prog 98 #[.slice s.a2 s.b2.length s.c2, .func (.yield l) #[] #[]] W (Goes S top J Jx (k + sizeB (x.take (j + 1))) W))
    (m : Nat) (W : World) (hhi : hi ≤ W.heap.size) (hL : Low w0 W) (h0 : J k W) :
    CallsIn Fence.wide m Tryz.prog 98 #[.slice A x.length c, .func (.yield l) #[] #[]] W (Goes S top J Jx (k + sizeB x) W) := by
  have HY := Lib.hid hY
  have HP := Lib.hid hP
  have HP2 := Lib.hid hP2
  have HROW := Lib.hid hrow
  have HL := Lib.hid hL
  have HHI := Lib.hid hhi
  unfold most at hlen
  clear hY hP hP2 hrow hL hhi
  obtain ⟨n, hn⟩ : ∃ n, x.length = n := ⟨_, rfl⟩
  rw [hn] at hlen ⊢
  have HN := Lib.hid hn
  clear hn
  refine callsIn_of_wp Tryz.func98 rfl trivial ?_ rfl
  simp only [Tryz.ntmps98, List.size_toArray, List.length_cons, List.length_nil, Nat.reduceAdd, Nat.reduceSub, Array.replicate_succ, Array.replicate_zero, List.push_toArray, List.append_toArray, List.nil_append, List.cons_append]
  gi_wp2
  gi_loopw [9] (fun i wr => ∃ j : Nat, j ≤ n ∧ i = .int .i64 j ∧ J (k + sizeB (x.take j)) wr ∧ Hid (Keep S top W wr)) (fun i _ => n - (intOf i).toNat)
  case atStart => exact ⟨0, Nat.zero_le _, rfl, by simpa [sizeB, flatB] using h0, Lib.hid (Keep.refl _ _ _)⟩
  case round =>
    obtain ⟨j, hj, rfl, hJj, hKj⟩ := hrel
    by_cases hlt : j < n
    · obtain ⟨s, hx⟩ : ∃ s, x[j]? = some s := ⟨_, List.getElem?_eq_getElem (by rw [HN.out]; exact hlt)⟩
      obtain ⟨b1, o1, rfl, _, hc1⟩ := HROW.out.low (HL.out.keep h00 hKj.out) hx
      obtain ⟨p0, p1, p2, p3, p4, p5, p6, p7, p8⟩ := stC_at hc1
      have HW := Lib.hid (Nat.le_trans HHI.out hKj.out.size)
      have HK2 := Lib.hid (hKj.out.trans (Keep.alloc (.cells #[.int .i64 s.op, .string s.s, .int .i64 s.e.op, .int .i64 s.e.n, .string s.e.s, .string s.e.q, .slice s.e.a s.e.x.length s.e.c, .slice s.a s.b.length s.c, .slice s.a2 s.b2.length s.c2] 47)))
      have HNEW := Lib.hid (new_at wr #[.int .i64 s.op, .string s.s, .int .i64 s.e.op, .int .i64 s.e.n, .string s.e.s, .string s.e.q, .slice s.e.a s.e.x.length s.e.c, .slice s.a s.b.length s.c, .slice s.a2 s.b2.length s.c2] 47)
      obtain ⟨fn, tmps, assign, body, hy, hR⟩ := HY.out j s hx (m - 1) (wr.alloc (.cells #[.int .i64 s.op, .string s.s, .int .i64 s.e.op, .int .i64 s.e.n, .string s.e.s, .string s.e.q, .slice s.e.a s.e.x.length s.e.c, .slice s.a s.b.length s.c, .slice s.a2 s.b2.length s.c2] 47)) (own_alloc hJ hJj _)
      rw [stV_eq] at hy
      have HR := Lib.hid hR
      have HX := Lib.hid hx
      clear hc1 hx hR
      gi_wp2
      refine ⟨(fun h => by cases h), ?_⟩
      refine HR.out.mono ?_
      rintro e' W3 (⟨rfl, hJ3, hk3⟩ | ⟨rfl, hx3, hk3⟩)
      · have z7 := cell_at (hk3.cell (fun hs => by have := (h00 _ hs).2; have := HW.out; omega) HNEW.out) 7
        simp only [List.getElem?_toArray, List.getElem?_cons_succ, List.getElem?_cons_zero] at z7
        have HNEW3 := Lib.hid (hk3.cell (fun hs => by have := (h00 _ hs).2; have := HW.out; omega) HNEW.out)
        have HK3 := Lib.hid (HK2.out.trans hk3)
        have CC := Lib.hid (HP.out j s HX.out (m - 1) W3 (Nat.le_trans HHI.out HK3.out.size) (HL.out.keep h00 HK3.out) hJ3)
        clear hk3
        gi_wp2
        refine ⟨trivial, (fun h => by cases h), ?_⟩
        refine CC.out.mono ?_
        rintro e'' W4 (⟨rfl, hJ4, hk4⟩ | ⟨rfl, hx4, hk4⟩)
        · have z8 := cell_at (hk4.cell (fun hs => by have := (h00 _ hs).2; have := HW.out; omega) HNEW3.out) 8
          simp only [List.getElem?_toArray, List.getElem?_cons_succ, List.getElem?_cons_zero] at z8
          have HK4 := Lib.hid (HK3.out.trans hk4)
          have CC2 := Lib.hid (HP2.out j s HX.out (m - 1) W4 (Nat.le_trans HHI.out HK4.out.size) (HL.out.keep h00 HK4.out) hJ4)
          clear hk4
          gi_wp2
          refine ⟨trivial, (fun h => by cases h), ?_⟩
          refine CC2.out.mono ?_
          rintro e3 W5 (⟨rfl, hJ5, hk5⟩ | ⟨rfl, hx5, hk5⟩)
          · have HK5 := Lib.hid (HK4.out.trans hk5)
            gi_wp2
            go_roundw
            case rel => exact ⟨j + 1, by omega, rfl, hJ5, HK5⟩
            case measure => simp [intOf]; omega
          · gi_wp2
            go_ret
            exact .inr ⟨rfl, hx5, HK4.out.trans hk5⟩
        · gi_wp2
          refine ⟨trivial, ?_⟩
          gi_wp2
          go_ret
          exact .inr ⟨rfl, hx4, HK3.out.trans hk4⟩
      · gi_wp2
        refine ⟨trivial, ?_⟩
        gi_wp2
        refine ⟨trivial, ?_⟩
        gi_wp2
        go_ret
        exact .inr ⟨rfl, hx3, HK2.out.trans hk3⟩
    · obtain rfl : j = n := by omega
      gi_wp2
      go_ret
      refine .inl ⟨rfl, ?_, hKj.out⟩
      rwa [List.take_of_length_le (Nat.le_of_eq HN.out)] at hJj
theorem stmts_upto (w0 : World) (S : Nat → Prop) (hi top l B : Nat) (h00 : ∀ b, S b → w0.heap.size ≤ b ∧ b < hi) (J : Nat → World → Prop) (Jx : World → Prop) (hJ : Mine B J) (L : List St)
    (hY : ∀ m k s W, L[k]? = some s → J k W → YieldAt Fence.wide m Tryz.prog l #[stV s] W (Goes S top J Jx (k + 1) W)) :
    ∀ (n : Nat) (x : List St) (A : Option Addr) (c k : Nat), sizeB x ≤ n → Row 9 stC w0 A x → x.length ≤ most → (∀ s ∈ x, StIn w0 s) → FromB L k x → ∀ (m : Nat) (W : World), hi ≤ W.heap.size → Low w0 W → J k W →
      CallsIn Fence.wide m Tryz.prog 98 #[.slice A x.length c, .func (.yield l) #[] #[]] W (Goes S top J Jx (k + sizeB x) W)
  | 0, [], A, c, k, _, hr, hl, _, _ => stmts_step w0 S hi top l B h00 J Jx hJ [] A c k hr hl (fun j s h => by simp at h) (fun j s h => by simp at h) (fun j s h => by simp at h)
  | 0, s :: r, A, c, k, h, _, _, _, _ => by rw [sizeB_cons, sizeS_eq] at h; omega
  | n + 1, x, A, c, k, h, hr, hl, hin, hL => stmts_step w0 S hi top l B h00 J Jx hJ x A c k hr hl (fun j s hs m W hj => hY m _ s W (hL.at_ hs) hj)
      (fun j s hs m W h2 h3 h4 => by
        have hm := List.mem_of_getElem? hs
        have h5 := sizeS_mem hm
        rw [sizeS_eq] at h5
        exact stmts_upto w0 S hi top l B h00 J Jx hJ L hY n s.b s.a s.c _ (by omega) (hin s hm).nd.row (hin s hm).nd.len (fun t ht => (hin s hm).part (.inl ht)) (hL.body hs) m W h2 h3 h4)
      (fun j s hs m W h2 h3 h4 => by
        have hm := List.mem_of_getElem? hs
        have h5 := sizeS_mem hm
        rw [sizeS_eq] at h5
        have := stmts_upto w0 S hi top l B h00 J Jx hJ L hY n s.b2 s.a2 s.c2 _ (by omega) (hin s hm).nd.row2 (hin s hm).nd.len2 (fun t ht => (hin s hm).part (.inr ht)) (hL.other hs) m W h2 h3 h4
        rw [sizeB_take x j s hs, sizeS_eq]
        rwa [show k + (sizeB (x.take j) + (1 + (sizeB s.b + sizeB s.b2))) = k + sizeB (x.take j) + 1 + sizeB s.b + sizeB s.b2 by omega])
/-- yieldStatements: all statements come, in order; or a round has said: no more. -/
theorem stmts_in (w0 : World) (S : Nat → Prop) (hi top l B : Nat) (h00 : ∀ b, S b → w0.heap.size ≤ b ∧ b < hi) (J : Nat → World → Prop) (Jx : World → Prop) (hJ : Mine B J) (L : List St)
    (hY : ∀ m k s W, L[k]? = some s → J k W → YieldAt Fence.wide m Tryz.prog l #[stV s] W (Goes S top J Jx (k + 1) W))
    (x : List St) (A : Option Addr) (c k : Nat) (hr : Row 9 stC w0 A x) (hl : x.length ≤ most) (hin : ∀ s ∈ x, StIn w0 s) (hL : FromB L k x) (m : Nat) (W : World) (h2 : hi ≤ W.heap.size) (h3 : Low w0 W) (h4 : J k W) :
    CallsIn Fence.wide m Tryz.prog 98 #[.slice A x.length c, .func (.yield l) #[] #[]] W (Goes S top J Jx (k + sizeB x) W) :=
  stmts_upto w0 S hi top l B h00 J Jx hJ L hY _ x A c k (Nat.le_refl _) hr hl hin hL m W h2 h3 h4
end Go.Proofs.YtmihlmlojmdhjaaGreatDoor.Tre
/- A loop over a sequence whose rounds may themselves hand on to an outer loop: what a sequence gives, one value behind the other, each known by its place; what the loop's body owes. No condition. -/
namespace Go.Proofs.YtmihlmlojmdhjaaGreatDoor.Tre
open Go.RowKit
set_option maxRecDepth 100000
/-- What a sequence gives, whatever the loop: its values, in their order; what lies below c0, and the blocks caps, must not turn meanwhile. -/
def Gives (c0 : Nat) (caps : List Nat) (g : Nat) (lb : Array Value) (vals : List Value) (w : World) : Prop :=
  ∀ (m l : Nat) (S : Nat → Prop) (hi : Nat) (J : Nat → World → Prop) (Jx : World → Prop) (W : World), Below w.heap.size w W → (∀ b, S b → c0 ≤ b ∧ b < hi) → hi ≤ W.heap.size → (∀ b ∈ caps, ¬ S b) →
    Mine W.heap.size J → Mine W.heap.size (fun (_ : Unit) => Jx) →
    (∀ m k v W1, vals[k]? = some v → J k W1 → YieldAt Fence.wide m Tryz.prog l #[v] W1 (Goes S W.heap.size J Jx (k + 1) W1)) → J 0 W →
    CallsIn Fence.wide m Tryz.prog g (#[.func (.yield l) #[] #[]] ++ lb) W fun e W' => (∃ v, e = .returned v) ∧ (J vals.length W' ∨ Jx W')
theorem Gives.later {c0 : Nat} {caps : List Nat} {g : Nat} {lb : Array Value} {vals : List Value} {w w' : World} (h : Gives c0 caps g lb vals w) (hb : Below w.heap.size w w') : Gives c0 caps g lb vals w' :=
  fun m l S hi J Jx W hW => h m l S hi J Jx W (hb.trans (hW.mono hb.size))
theorem yield_any {m m' l : Nat} {args : Array Value} {W : World} {R : Ending → World → Prop} (h : YieldAt Fence.wide m Tryz.prog l args W R) : YieldAt Fence.wide m' Tryz.prog l args W R := by
  obtain ⟨fn, tmps, assign, body, hy, h1, h2⟩ := h
  exact ⟨fn, tmps, assign, body, hy, h1, fun c cs _ => h2 c cs (room_wide _)⟩
/-- How the body of a round may be left. -/
def Over (S : Nat → Prop) (top : Nat) (I : Nat → World → Prop) (Ix : Code → World → Prop) (k : Nat) (W : World) : Exit → Act → World → Prop
  | .normal, _, W' => Keep S top W W' ∧ I (k + 1) W'
  | .ret, _, W' => Keep S top W W' ∧ Ix .ret W'
  | .exit id, _, W' => Keep S top W W' ∧ Ix (.exit id) W'
  | .goto t, _, W' => Keep S top W W' ∧ Ix (.goto t) W'
  | .panic _, _, _ => False
  | .outgrown, _, _ => False
/-- A loop's record; and the block of its rounds' deferred calls, where it has one of its own. -/
structure Rec (l : Nat) (D : Option Nat) (r : Loop) (W : World) : Prop where
  lp : W.heap[l]? = some (.loop r)
  dfr : ∀ d, D = some d → W.heap[d]? = some (.deferred (some []))
theorem Rec.keep {l top : Nat} {S : Nat → Prop} {D : Option Nat} {r : Loop} {A B : World} (h : Rec l D r A) (hk : Keep S top A B) (h1 : top ≤ l) (h2 : ∀ d, D = some d → top ≤ d) : Rec l D r B := ⟨hk.rest l _ h1 h.lp rfl, fun d hd => hk.rest d _ (h2 d hd) (h.dfr d hd) rfl⟩
theorem Rec.put {l : Nat} {D : Option Nat} {r : Loop} {A : World} (h : Rec l D r A) (hne : ∀ d, D = some d → d ≠ l) (r' : Loop) : Rec l D r' (A.putObj l (.loop r')) := ⟨World.putObj_heap_same (lt_of_heap h.lp), fun d hd => (World.putObj_heap_other (hne d hd)).trans (h.dfr d hd)⟩
theorem Rec.grown {l B : Nat} {D : Option Nat} {r : Loop} {X Y : World} {row : Option Nat} (h : Rec l D r X) (hg : X.grownBy Y row) (hr : ∀ k, row = some k → B ≤ k) (h1 : l < B) (h2 : ∀ d, D = some d → d < B) : Rec l D r Y :=
  ⟨(hg.block l (lt_of_heap h.lp) (fun e => by have := hr l e.symm; omega)).trans h.lp, fun d hd => (hg.block d (lt_of_heap (h.dfr d hd)) (fun e => by have := hr d e.symm; have := h2 d hd; omega)).trans (h.dfr d hd)⟩
def lrec (fn : FuncId) (tmps : Array Value) (ps : Array Tmp) (assign body : Code) (D : Nat) (s : LoopState) (p : Option Code) : Loop := { state := s, pending := p, fn, tmps, params := ps, assign, body, defers := D }
section
variable {S : Nat → Prop} {top l B m D0 : Nat} {D : Option Nat} {I : Nat → World → Prop} {Ix : Code → World → Prop} {A : Nat → Act → World → Prop} {assign body : Code} {fn0 : FuncId} {tm0 : Array Value} {ps0 : Array Tmp}
/-- One round of the loop. -/
theorem round_over {k : Nat} {W : World} {fn : FuncId} {tmps : Array Value}
    (hI : Mine top I) (hIx : ∀ c, Mine top (fun (_ : Unit) => Ix c)) (hA : ∀ k a', OwnFrom top (fun (_ : Unit) => A k a')) (hl : top ≤ l) (hD : ∀ d, D = some d → top ≤ d) (hlD : ∀ d, D = some d → d ≠ l) (hlB : l < B) (htB : top ≤ B)
    (hassign : assign.wpIn (Fence.wide.inRound l) m Tryz.prog (Exit.then (fun a' W' => Keep S top W W' ∧ A k a' W') (fun _ _ _ => False)) { tmps := tmps, defers := [] } W)
    (hbody : ∀ a' W', (∃ r, W'.heap[l]? = some (.loop r)) → A k a' W' → body.wpIn (Fence.wide.inRound l) m Tryz.prog (Over S top I Ix k W') a' W')
    (hrec : Rec l D (lrec fn0 tm0 ps0 assign body D0 .ready none) W) :
    RoundIn Fence.wide m Tryz.prog l fn tmps assign body W (Goes S B (fun k W' => I k W' ∧ Rec l D (lrec fn0 tm0 ps0 assign body D0 .ready none) W') (fun W' => ∃ c, Ix c W' ∧ Rec l D (lrec fn0 tm0 ps0 assign body D0 .done (some c)) W') (k + 1) W) := by
  refine roundIn_of_wpIn trivial (wpIn_mono hassign ?_)
  intro e a1 W1 h1
  cases e with
  | normal =>
    obtain ⟨hk1, hA1⟩ := h1
    have hr1 := hrec.keep hk1 hl hD
    refine ⟨_, run_beginRound hr1.lp rfl, ?_⟩
    change body.wpIn _ _ _ _ a1 (W1.putObj l (.loop (lrec fn0 tm0 ps0 assign body D0 .busy none)))
    have hr2' := hr1.put hlD (lrec fn0 tm0 ps0 assign body D0 .busy none)
    have hk2 : Keep S B W1 (W1.putObj l (.loop (lrec fn0 tm0 ps0 assign body D0 .busy none))) := Keep.put _ hlB hr1.lp rfl
    refine wpIn_mono (hbody a1 _ ⟨_, hr2'.lp⟩ (hA k a1 () W1 _ (some l) hA1 (grownBy_putObj' W1 l _) (fun q hq => by cases hq; exact ⟨hl, _, hr1.lp, rfl⟩))) ?_
    have fin : ∀ (jump : Option Code) (W3 : World), Keep S top (W1.putObj l (.loop (lrec fn0 tm0 ps0 assign body D0 .busy none))) W3 →
        (Instr.endRound l jump).run Tryz.prog W3 = .ok (.bool jump.isNone) (W3.putObj l (.loop (lrec fn0 tm0 ps0 assign body D0 (if jump.isNone then .ready else .done) jump))) ∧ Rec l D (lrec fn0 tm0 ps0 assign body D0 (if jump.isNone then .ready else .done) jump) (W3.putObj l (.loop (lrec fn0 tm0 ps0 assign body D0 (if jump.isNone then .ready else .done) jump))) ∧
        Keep S B W (W3.putObj l (.loop (lrec fn0 tm0 ps0 assign body D0 (if jump.isNone then .ready else .done) jump))) := fun jump W3 hk3 => by
      have hr3 := hr2'.keep hk3 hl hD
      exact ⟨run_endRound (P := Tryz.prog) jump hr3.lp, hr3.put hlD _, (hk1.more (fun _ h => h) htB).trans (hk2.trans ((hk3.more (fun _ h => h) htB).trans (Keep.put _ hlB hr3.lp rfl)))⟩
    intro e3 a3 W3 h3
    cases e3 with
    | normal =>
      obtain ⟨hk3, hI3⟩ := h3
      obtain ⟨f1, f2, f3⟩ := fin none W3 hk3
      exact ⟨_, _, f1, .inl ⟨rfl, ⟨hI.putObj _ hI3 hl, f2⟩, f3⟩⟩
    | ret =>
      obtain ⟨hk3, hI3⟩ := h3
      obtain ⟨f1, f2, f3⟩ := fin (some .ret) W3 hk3
      exact ⟨_, _, f1, .inr ⟨rfl, ⟨_, (hIx _).putObj (s := ()) _ hI3 hl, f2⟩, f3⟩⟩
    | exit id =>
      obtain ⟨hk3, hI3⟩ := h3
      obtain ⟨f1, f2, f3⟩ := fin (some (.exit id)) W3 hk3
      exact ⟨_, _, f1, .inr ⟨rfl, ⟨_, (hIx _).putObj (s := ()) _ hI3 hl, f2⟩, f3⟩⟩
    | goto t =>
      obtain ⟨hk3, hI3⟩ := h3
      obtain ⟨f1, f2, f3⟩ := fin (some (.goto t)) W3 hk3
      exact ⟨_, _, f1, .inr ⟨rfl, ⟨_, (hIx _).putObj (s := ()) _ hI3 hl, f2⟩, f3⟩⟩
    | panic ch => exact h3.elim
    | outgrown => exact h3.elim
  | ret => exact h1.elim
  | exit id => exact h1.elim
  | goto t => exact h1.elim
  | panic ch => exact h1.elim
  | outgrown => exact h1.elim
end
section
variable {g : Operand} {ps : Array Tmp} {assign body : Code} {Q : Exit → Act → World → Prop} {a : Act} {w w0 : World} {n gf c0 hi : Nat} {S : Nat → Prop} {lb : Array Value} {caps : List Nat} {vals : List Value} {I : Nat → World → Prop} {Ix : Code → World → Prop} {A : Nat → Act → World → Prop}
/-- The loop, in a function's own frame. -/
theorem wp_over (hg : a.eval g = .func (.func gf) #[] lb) (eg : ∀ args w, (callFunc gf args).run Tryz.prog w = .ok (.enter gf args) w) (hseq : Gives c0 caps gf lb vals w0) (hb0 : Below w0.heap.size w0 w) (hps : ps.size = 1)
    (h1 : ∀ b, S b → c0 ≤ b ∧ b < hi) (h3 : hi ≤ w.heap.size) (hcap : ∀ b ∈ caps, ¬ S b)
    (hI : Mine w.heap.size I) (hIx : ∀ c, Mine w.heap.size (fun (_ : Unit) => Ix c)) (hA : ∀ k a', OwnFrom w.heap.size (fun (_ : Unit) => A k a')) (h0 : I 0 w)
    (hassign : ∀ l k v m W, vals[k]? = some v → I k W → assign.wpIn (Fence.wide.inRound l) m Tryz.prog (Exit.then (fun a' W' => Keep S w.heap.size W W' ∧ A k a' W') (fun _ _ _ => False)) { tmps := (ps.zip #[v]).foldl (fun t (p, v) => t.setIfInBounds p v) a.tmps, defers := [] } W)
    (hbody : ∀ l k v m a' W, w.heap.size ≤ l → (∃ r, W.heap[l]? = some (.loop r)) → vals[k]? = some v → A k a' W → body.wpIn (Fence.wide.inRound l) m Tryz.prog (Over S w.heap.size I Ix k W) a' W)
    (hdone : ∀ D W, w.heap.size ≤ D → I vals.length W → W.heap[D]? = some (.deferred (some [])) → Q .normal { a with defers := { target := .collected D, args := #[] } :: a.defers } W)
    (hstop : ∀ D c W, w.heap.size ≤ D → Ix c W → W.heap[D]? = some (.deferred (some [])) → c.wpIn Fence.wide n Tryz.prog Q { a with defers := { target := .collected D, args := #[] } :: a.defers } W) :
    (Code.rangeFunc g ps assign body).wpIn Fence.wide n Tryz.prog Q a w := by
  refine wpIn_rangeFunc ?_
  intro fn _
  have hnew : Rec (w.heap.size + 1) (some w.heap.size) (lrec fn a.tmps ps assign body w.heap.size .ready none) ((w.alloc (.deferred (some []))).alloc (.loop (lrec fn a.tmps ps assign body w.heap.size .ready none))) := by
    refine ⟨?_, fun d hd => ?_⟩
    · have := World.alloc_heap_new (w.alloc (.deferred (some []))) (.loop (lrec fn a.tmps ps assign body w.heap.size .ready none))
      rwa [World.size_alloc] at this
    · cases hd
      exact (Below.heap_alloc _ _ _ (by simp)).trans (World.alloc_heap_new w _)
  have hI1 := hI.alloc (.loop (lrec fn a.tmps ps assign body w.heap.size .ready none)) (hI.alloc (.deferred (some [])) h0)
  have hb1 : Below w.heap.size w ((w.alloc (.deferred (some []))).alloc (.loop (lrec fn a.tmps ps assign body w.heap.size .ready none))) := ((Below.refl _ w).alloc (Nat.le_refl _) _).alloc (by simp) _
  have hsz : ((w.alloc (.deferred (some []))).alloc (.loop (lrec fn a.tmps ps assign body w.heap.size .ready none))).heap.size = w.heap.size + 2 := by simp
  have hent := run_enterLoop_outer (P := Tryz.prog) (w := w) fn a.tmps ps assign body
  change _ = Result.ok _ ((w.alloc (.deferred (some []))).alloc (.loop (lrec fn a.tmps ps assign body w.heap.size .ready none))) at hent
  obtain ⟨W1, hW1⟩ : ∃ W1, (w.alloc (.deferred (some []))).alloc (.loop (lrec fn a.tmps ps assign body w.heap.size .ready none)) = W1 := ⟨_, rfl⟩
  rw [hW1] at hnew hI1 hb1 hsz hent
  refine ⟨w.heap.size + 1, [{ target := .collected w.heap.size, args := #[] }], W1, { target := .fn (.func gf) lb, args := #[.func (.yield (w.heap.size + 1)) #[] #[]] }, W1, gf, #[.func (.yield (w.heap.size + 1)) #[] #[]] ++ lb, W1, hent, ?_, fun _ _ => trivial, ?_, fun h => (by cases h), ?_⟩
  · simp only [resolve, hg]
    simp [go_sem]
  · simp [invoke, go_sem, eg]
  · refine (hseq (n - 1) (w.heap.size + 1) S hi (fun k W => I k W ∧ Rec (w.heap.size + 1) (some w.heap.size) (lrec fn a.tmps ps assign body w.heap.size .ready none) W) (fun W => ∃ c, Ix c W ∧ Rec (w.heap.size + 1) (some w.heap.size) (lrec fn a.tmps ps assign body w.heap.size .done (some c)) W) W1 (hb0.trans (hb1.mono hb0.size)) h1 (by omega) hcap ?_ ?_ ?_ ⟨hI1, hnew⟩).mono ?_
    · intro s X Y row hs hg' hr
      exact ⟨hI s X Y row hs.1 hg' (fun r e => by have := hr r e; omega), hs.2.grown hg' hr (by omega) (fun d hd => by cases hd; omega)⟩
    · intro s X Y row hs hg' hr
      obtain ⟨c, hc, hrec⟩ := hs
      exact ⟨c, hIx c () X Y row hc hg' (fun r e => by have := hr r e; omega), hrec.grown hg' hr (by omega) (fun d hd => by cases hd; omega)⟩
    · rintro m k v W hv ⟨hIk, hrec⟩
      refine ⟨fn, _, assign, body, run_yield hrec.lp (by simpa [lrec] using hps.symm), ?_⟩
      exact round_over hI hIx hA (by omega) (fun d hd => by cases hd; exact Nat.le_refl _) (fun d hd => by cases hd; omega) (by omega) (by omega) (hassign _ k v m W hv hIk) (fun a' W' hr hA' => hbody _ k v m a' W' (by omega) hr hv hA') hrec
    · rintro e W2 ⟨⟨v, rfl⟩, (⟨hIk, hrec⟩ | ⟨c, hc, hrec⟩)⟩
      · exact ⟨none, _, run_endLoop (P := Tryz.prog) hrec.lp (by simp [lrec]), hdone _ _ (Nat.le_refl _) (hI.putObj _ hIk (by omega)) ((World.putObj_heap_other (by omega)).trans (hrec.dfr _ rfl))⟩
      · exact ⟨some c, _, run_endLoop (P := Tryz.prog) hrec.lp (by simp [lrec]), hstop _ c _ (Nat.le_refl _) ((hIx c).putObj (s := ()) _ hc (by omega)) ((World.putObj_heap_other (by omega)).trans (hrec.dfr _ rfl))⟩
/-- The loop, within a round of another one. -/
theorem wp_over_in {l0 : Nat} {q0 : Loop} (hl0 : w.heap[l0]? = some (.loop q0)) (hg : a.eval g = .func (.func gf) #[] lb) (eg : ∀ args w, (callFunc gf args).run Tryz.prog w = .ok (.enter gf args) w) (hseq : Gives c0 caps gf lb vals w0) (hb0 : Below w0.heap.size w0 w) (hps : ps.size = 1)
    (h1 : ∀ b, S b → c0 ≤ b ∧ b < hi) (h3 : hi ≤ w.heap.size) (hcap : ∀ b ∈ caps, ¬ S b)
    (hI : Mine w.heap.size I) (hIx : ∀ c, Mine w.heap.size (fun (_ : Unit) => Ix c)) (hA : ∀ k a', OwnFrom w.heap.size (fun (_ : Unit) => A k a')) (h0 : I 0 w)
    (hassign : ∀ l k v m W, vals[k]? = some v → I k W → assign.wpIn (Fence.wide.inRound l) m Tryz.prog (Exit.then (fun a' W' => Keep S w.heap.size W W' ∧ A k a' W') (fun _ _ _ => False)) { tmps := (ps.zip #[v]).foldl (fun t (p, v) => t.setIfInBounds p v) a.tmps, defers := [] } W)
    (hbody : ∀ l k v m a' W, w.heap.size ≤ l → (∃ r, W.heap[l]? = some (.loop r)) → vals[k]? = some v → A k a' W → body.wpIn (Fence.wide.inRound l) m Tryz.prog (Over S w.heap.size I Ix k W) a' W)
    (hdone : ∀ W, I vals.length W → Q .normal a W) (hstop : ∀ c W, Ix c W → c.wpIn (Fence.wide.inRound l0) n Tryz.prog Q a W) :
    (Code.rangeFunc g ps assign body).wpIn (Fence.wide.inRound l0) n Tryz.prog Q a w := by
  refine wpIn_rangeFunc ?_
  intro fn _
  have hnew : Rec w.heap.size none (lrec fn a.tmps ps assign body q0.defers .ready none) (w.alloc (.loop (lrec fn a.tmps ps assign body q0.defers .ready none))) :=
    ⟨World.alloc_heap_new w _, fun d hd => by cases hd⟩
  have hI1 := hI.alloc (.loop (lrec fn a.tmps ps assign body q0.defers .ready none)) h0
  have hb1 : Below w.heap.size w (w.alloc (.loop (lrec fn a.tmps ps assign body q0.defers .ready none))) := (Below.refl _ w).alloc (Nat.le_refl _) _
  have hsz : (w.alloc (.loop (lrec fn a.tmps ps assign body q0.defers .ready none))).heap.size = w.heap.size + 1 := by simp
  have hent := run_enterLoop_inner (P := Tryz.prog) hl0 fn a.tmps ps assign body
  change _ = Result.ok _ (w.alloc (.loop (lrec fn a.tmps ps assign body q0.defers .ready none))) at hent
  obtain ⟨W1, hW1⟩ : ∃ W1, w.alloc (.loop (lrec fn a.tmps ps assign body q0.defers .ready none)) = W1 := ⟨_, rfl⟩
  rw [hW1] at hnew hI1 hb1 hsz hent
  refine ⟨w.heap.size, [], W1, { target := .fn (.func gf) lb, args := #[.func (.yield w.heap.size) #[] #[]] }, W1, gf, #[.func (.yield w.heap.size) #[] #[]] ++ lb, W1, hent, ?_, fun _ _ => trivial, ?_, fun h => (by cases h), ?_⟩
  · simp only [resolve, hg]
    simp [go_sem]
  · simp [invoke, go_sem, eg]
  · refine (show CallsIn (Fence.wide.inRound l0) (n - 1) Tryz.prog gf (#[.func (.yield w.heap.size) #[] #[]] ++ lb) W1 _ from (hseq (n - 1) w.heap.size S hi (fun k W => I k W ∧ Rec w.heap.size none (lrec fn a.tmps ps assign body q0.defers .ready none) W) (fun W => ∃ c, Ix c W ∧ Rec w.heap.size none (lrec fn a.tmps ps assign body q0.defers .done (some c)) W) W1 (hb0.trans (hb1.mono hb0.size)) h1 (by omega) hcap ?_ ?_ ?_ ⟨hI1, hnew⟩)).mono ?_
    · intro s X Y row hs hg' hr
      exact ⟨hI s X Y row hs.1 hg' (fun r e => by have := hr r e; omega), hs.2.grown hg' hr (by omega) (fun d hd => by cases hd)⟩
    · intro s X Y row hs hg' hr
      obtain ⟨c, hc, hrec⟩ := hs
      exact ⟨c, hIx c () X Y row hc hg' (fun r e => by have := hr r e; omega), hrec.grown hg' hr (by omega) (fun d hd => by cases hd)⟩
    · rintro m k v W hv ⟨hIk, hrec⟩
      refine ⟨fn, _, assign, body, run_yield hrec.lp (by simpa [lrec] using hps.symm), ?_⟩
      exact round_over hI hIx hA (Nat.le_refl _) (fun d hd => by cases hd) (fun d hd => by cases hd) (by omega) (by omega) (hassign _ k v m W hv hIk) (fun a' W' hr hA' => hbody _ k v m a' W' (Nat.le_refl _) hr hv hA') hrec
    · rintro e W2 ⟨⟨v, rfl⟩, (⟨hIk, hrec⟩ | ⟨c, hc, hrec⟩)⟩
      · exact ⟨none, _, run_endLoop (P := Tryz.prog) hrec.lp (by simp [lrec]), hdone _ (hI.putObj _ hIk (Nat.le_refl _))⟩
      · exact ⟨some c, _, run_endLoop (P := Tryz.prog) hrec.lp (by simp [lrec]), hstop c _ ((hIx c).putObj (s := ()) _ hc (Nat.le_refl _))⟩
end
end Go.Proofs.YtmihlmlojmdhjaaGreatDoor.Tre
/- zero, given, counts: is an expression the zero one; does one stand there; does one count. Condition: the expression lies in memory. -/
namespace Go.Proofs.YtmihlmlojmdhjaaGreatDoor.Tre
open Go.RowKit
set_option maxRecDepth 100000
set_option maxHeartbeats 4000000 in
theorem zero_any (e : Ex) (w : World) (hl : e.x.length ≤ most) : Calls Tryz.prog 54 #[exV e] w (EndsB (.bool (zeroX e)) w) := by
  unfold zeroX most at *
  rw [exV_eq]
  have HB := Lib.hid (ball_new w #[.int .i64 e.op, .int .i64 e.n, .string e.s, .string e.q, .slice e.a e.x.length e.c] 42)
  generalize e.x.length = k at *
  rcases Bool.eq_false_or_eq_true (e.op == 0) with h1 | h1
  · rcases Bool.eq_false_or_eq_true (e.n == 0) with h2 | h2
    · rcases Bool.eq_false_or_eq_true (e.s.toList == []) with h3 | h3
      · rcases Bool.eq_false_or_eq_true (e.q.toList == []) with h4 | h4
        · rcases Bool.eq_false_or_eq_true (k == 0) with h5 | h5
          · obtain rfl : k = 0 := by simpa using h5
            go_enter Tryz.func54, Tryz.ntmps54
            go_wp2
            go_ret
            exact ends_bool (by simp [*]) HB.out
          · have h6 : ((k : Int) == 0) = false := by simp at h5 ⊢; omega
            go_enter Tryz.func54, Tryz.ntmps54
            go_wp2
            go_ret
            exact ends_bool (by simp [*]) HB.out
        · go_enter Tryz.func54, Tryz.ntmps54
          go_wp2
          go_ret
          exact ends_bool (by simp [*]) HB.out
      · go_enter Tryz.func54, Tryz.ntmps54
        go_wp2
        go_ret
        exact ends_bool (by simp [*]) HB.out
    · go_enter Tryz.func54, Tryz.ntmps54
      go_wp2
      go_ret
      exact ends_bool (by simp [*]) HB.out
  · go_enter Tryz.func54, Tryz.ntmps54
    go_wp2
    go_ret
    exact ends_bool (by simp [*]) HB.out
set_option maxHeartbeats 4000000 in
theorem given_any (s : St) (w : World) (hl : s.e.x.length ≤ most) : Calls Tryz.prog 28 #[stV s] w (EndsB (.bool (givenB s)) w) := by
  have HB := Lib.hid (ball_new w #[.int .i64 s.op, .string s.s, .int .i64 s.e.op, .int .i64 s.e.n, .string s.e.s, .string s.e.q, .slice s.e.a s.e.x.length s.e.c, .slice s.a s.b.length s.c, .slice s.a2 s.b2.length s.c2] 47)
  have C := Lib.hid (zero_any s.e (w.alloc (.cells #[.int .i64 s.op, .string s.s, .int .i64 s.e.op, .int .i64 s.e.n, .string s.e.s, .string s.e.q, .slice s.e.a s.e.x.length s.e.c, .slice s.a s.b.length s.c, .slice s.a2 s.b2.length s.c2] 47)) hl)
  rw [exV_eq] at C
  unfold givenB
  rw [stV_eq]
  clear hl
  generalize zeroX s.e = t at *
  go_enter Tryz.func28, Tryz.ntmps28
  go_wp2_with fail
  refine C.out.mono ?_
  rintro e w1 ⟨rfl, hb1⟩
  have HB1 := Lib.hid (HB.out.trans (hb1.mono HB.out.size))
  clear hb1 C
  go_wp2_with fail
  go_ret
  exact ends_bool rfl HB1.out
end Go.Proofs.YtmihlmlojmdhjaaGreatDoor.Tre
/- parts, statements: the sequences of an expression's parts, of all statements: what they give. Conditions: the trees lie in memory. -/
namespace Go.Proofs.YtmihlmlojmdhjaaGreatDoor.Tre
open Go.RowKit
set_option maxRecDepth 100000
attribute [local go_sem] Oper.semAt_some
set_option maxHeartbeats 1000000 in
theorem parts_any (F : Fence) (m : Nat) (hF : F.fn 53) (hro : F.round = none) (e : Ex) (w : World) : CallsIn F m Tryz.prog 53 #[exV e] w fun r w' => r = .returned (.func (.func 99) #[] #[.pointer (some ⟨w.heap.size, 0, none⟩)]) ∧ w' = w.alloc (.cells #[.int .i64 e.op, .int .i64 e.n, .string e.s, .string e.q, .slice e.a e.x.length e.c] 42) := by
  rw [exV_eq]
  generalize e.x.length = k at *
  refine callsIn_of_wp Tryz.func53 rfl hF ?_ hro
  simp only [Tryz.ntmps53, List.size_toArray, List.length_cons, List.length_nil, Nat.reduceAdd, Nat.reduceSub, Array.replicate_succ, Array.replicate_zero, List.push_toArray, List.append_toArray, List.nil_append, List.cons_append]
  gi_wp2
  go_ret
  exact ⟨rfl, rfl⟩
set_option maxHeartbeats 1000000 in
theorem statements_any (F : Fence) (m : Nat) (hF : F.fn 52) (hro : F.round = none) (A : Option Addr) (n c : Nat) (w : World) : CallsIn F m Tryz.prog 52 #[.slice A n c] w fun r w' => r = .returned (.func (.func 97) #[] #[.pointer (some ⟨w.heap.size, 0, none⟩)]) ∧ w' = w.alloc (.cells #[.slice A n c] 34) := by
  refine callsIn_of_wp Tryz.func52 rfl hF ?_ hro
  simp only [Tryz.ntmps52, List.size_toArray, List.length_cons, List.length_nil, Nat.reduceAdd, Nat.reduceSub, Array.replicate_succ, Array.replicate_zero, List.push_toArray, List.append_toArray, List.nil_append, List.cons_append]
  gi_wp2
  go_ret
  exact ⟨rfl, rfl⟩
theorem map_at {α : Type} {f : α → Value} {l : List α} {k : Nat} {x : α} (h : l[k]? = some x) : (l.map f)[k]? = some (f x) := by simp [h]
set_option maxHeartbeats 1000000 in
theorem parts_gives (w0 : World) (e : Ex) (hin : ExIn w0 e) (b : Nat) (w : World) (hL : Low w0 w) (hb : w.heap[b]? = some (.cells #[.int .i64 e.op, .int .i64 e.n, .string e.s, .string e.q, .slice e.a e.x.length e.c] 42 (0, 0))) :
    Gives w0.heap.size [] 99 #[.pointer (some ⟨b, 0, none⟩)] ((flat e).map exV) w := fun m l S hi J Jx W hB h00 hhi _ hJ hJx hY h0 => by
  have hbW := (hB.block b (lt_of_heap hb)).trans hb
  have c0 := cell_at hbW 0
  have c1 := cell_at hbW 1
  have c2 := cell_at hbW 2
  have c3 := cell_at hbW 3
  have c4 := cell_at hbW 4
  have HC := Lib.hid (parts_in w0 S hi W.heap.size l W.heap.size h00 J Jx hJ (flat e) (fun m k x W1 hx hj => hY m k (exV x) W1 (map_at hx) hj) e 0 hin (fun i y hy => by rwa [Nat.zero_add]) (m - 1) W hhi (hL.later hB) h0)
  have HX := Lib.hid hJx
  rw [exV_eq] at HC
  rw [List.length_map]
  clear hY h0 hbW hb hB hin hL
  simp only [List.getElem?_toArray, List.getElem?_cons_succ, List.getElem?_cons_zero] at c0 c1 c2 c3 c4
  refine callsIn_of_wp Tryz.func99 rfl trivial ?_ rfl
  simp only [Tryz.ntmps99, List.size_toArray, List.length_cons, List.length_nil, Nat.reduceAdd, Nat.reduceSub, Array.replicate_succ, Array.replicate_zero, List.push_toArray, List.append_toArray, List.nil_append, List.cons_append]
  gi_wp2
  refine ⟨trivial, (fun h => by cases h), ?_⟩
  refine HC.out.mono ?_
  rintro e' W3 (⟨rfl, hJ3, _⟩ | ⟨rfl, hx3, _⟩)
  · gi_wp2
    go_end0
    refine ⟨⟨_, rfl⟩, .inl ?_⟩
    rwa [Nat.zero_add] at hJ3
  · gi_wp2
    go_end0
    exact ⟨⟨_, rfl⟩, .inr hx3⟩
set_option maxHeartbeats 1000000 in
theorem statements_gives (w0 : World) (x : List St) (A : Option Addr) (c : Nat) (hr : Row 9 stC w0 A x) (hl : x.length ≤ most) (hin : ∀ s ∈ x, StIn w0 s) (b : Nat) (w : World) (hL : Low w0 w) (hb : w.heap[b]? = some (.cells #[.slice A x.length c] 34 (0, 0))) :
    Gives w0.heap.size [] 97 #[.pointer (some ⟨b, 0, none⟩)] ((flatB x).map stV) w := fun m l S hi J Jx W hB h00 hhi _ hJ hJx hY h0 => by
  have hbW := (hB.block b (lt_of_heap hb)).trans hb
  have c0 := cell_at hbW 0
  have HC := Lib.hid (stmts_in w0 S hi W.heap.size l W.heap.size h00 J Jx hJ (flatB x) (fun m k s W1 hx hj => hY m k (stV s) W1 (map_at hx) hj) x A c 0 hr hl hin (fun i y hy => by rwa [Nat.zero_add]) (m - 1) W hhi (hL.later hB) h0)
  rw [List.length_map]
  clear hY h0 hbW hb hB hin hL hr hJx
  simp only [List.getElem?_toArray, List.getElem?_cons_zero] at c0
  refine callsIn_of_wp Tryz.func97 rfl trivial ?_ rfl
  simp only [Tryz.ntmps97, List.size_toArray, List.length_cons, List.length_nil, Nat.reduceAdd, Nat.reduceSub, Array.replicate_succ, Array.replicate_zero, List.push_toArray, List.append_toArray, List.nil_append, List.cons_append]
  gi_wp2
  refine ⟨trivial, (fun h => by cases h), ?_⟩
  refine HC.out.mono ?_
  rintro e' W3 (⟨rfl, hJ3, _⟩ | ⟨rfl, hx3, _⟩)
  · gi_wp2
    go_end0
    refine ⟨⟨_, rfl⟩, .inl ?_⟩
    rwa [Nat.zero_add] at hJ3
  · gi_wp2
    go_end0
    exact ⟨⟨_, rfl⟩, .inr hx3⟩
end Go.Proofs.YtmihlmlojmdhjaaGreatDoor.Tre
/- Small laws for a function whose loops over sequences stand within a loop: the marks that it collects; what its own steps leave. Places in a list of lists. No condition. -/
namespace Go.Proofs.YtmihlmlojmdhjaaGreatDoor.Tre
open Go.RowKit
set_option maxRecDepth 100000
theorem flatMap_at {α β : Type} (g : α → List β) : ∀ (l : List α) (j i : Nat) (a : α) (y : β), l[j]? = some a → (g a)[i]? = some y → (l.flatMap g)[((l.take j).flatMap g).length + i]? = some y
  | [], j, i, a, y, h, _ => by simp at h
  | b :: r, 0, i, a, y, h, hy => by
    obtain rfl : b = a := by simpa using h
    rw [List.flatMap_cons, List.getElem?_append_left (by have := (List.getElem?_eq_some_iff.1 hy).1; simp; omega)]
    simpa using hy
  | b :: r, j + 1, i, a, y, h, hy => by
    have ih := flatMap_at g r j i a y (by simpa using h) hy
    rw [List.take_succ_cons, List.flatMap_cons, List.flatMap_cons, List.length_append, List.getElem?_append_right (by omega), show (g b).length + ((r.take j).flatMap g).length + i - (g b).length = ((r.take j).flatMap g).length + i by omega]
    exact ih
theorem flatMap_take {α β : Type} (g : α → List β) (l : List α) (j : Nat) (a : α) (h : l[j]? = some a) : ((l.take (j + 1)).flatMap g).length = ((l.take j).flatMap g).length + (g a).length := by
  rw [List.take_add_one, h]
  simp
def mark (D : Nat) : Deferred := { target := .collected D, args := #[] }
/-- The blocks of the marks stand open. -/
def Marks (ds : List Nat) (W : World) : Prop := ds.Nodup ∧ ∀ D ∈ ds, W.heap[D]? = some (.deferred (some []))
theorem Marks.nil (W : World) : Marks [] W := ⟨List.nodup_nil, fun D h => by cases h⟩
theorem Marks.lt {ds : List Nat} {W : World} (h : Marks ds W) : ∀ D ∈ ds, D < W.heap.size := fun D hD => lt_of_heap (h.2 D hD)
theorem Marks.cons {ds : List Nat} {D : Nat} {W : World} (h : Marks ds W) (hn : D ∉ ds) (hD : W.heap[D]? = some (.deferred (some []))) : Marks (D :: ds) W :=
  ⟨List.nodup_cons.2 ⟨hn, h.1⟩, fun k hk => by rcases List.mem_cons.1 hk with rfl | hk; exact hD; exact h.2 k hk⟩
theorem Marks.keep {ds : List Nat} {A B : World} {S : Nat → Prop} {top : Nat} (h : Marks ds A) (hk : Keep S top A B) (ht : ∀ D ∈ ds, top ≤ D) : Marks ds B := ⟨h.1, fun D hD => hk.rest D _ (ht D hD) (h.2 D hD) rfl⟩
theorem Marks.below {ds : List Nat} {A B : World} (h : Marks ds A) (hb : Below A.heap.size A B) : Marks ds B := ⟨h.1, fun D hD => (hb.block D (h.lt D hD)).trans (h.2 D hD)⟩
theorem Marks.grown {ds : List Nat} {A B : World} {row : Option Nat} {b : Nat} (h : Marks ds A) (hg : A.grownBy B row) (hr : ∀ k, row = some k → b ≤ k) (ht : ∀ D ∈ ds, D < b) : Marks ds B :=
  ⟨h.1, fun D hD => (hg.block D (h.lt D hD) (fun e => by have := hr D e.symm; have := ht D hD; omega)).trans (h.2 D hD)⟩
/-- On its way out the function comes to its marks, one behind the other. -/
theorem leaves_marks {n : Nat} {fn : Func} {tmps : Array Value} {R : Ending → World → Prop} {B : Nat} (Inv : World → Prop) (hInv : ∀ W D, Inv W → B ≤ D → W.heap[D]? = some (.deferred (some [])) → Inv (W.putObj D (.deferred none)))
    (base : ∀ W, Inv W → LeavesIn Fence.wide n Tryz.prog fn tmps R [] .returning W) : ∀ (ds : List Nat) (W : World), Marks ds W → (∀ D ∈ ds, B ≤ D) → Inv W → LeavesInM Fence.wide n Tryz.prog fn tmps R (ds.map mark) .returning W
  | [], W, _, _, h => base W h
  | D :: ds, W, hm, hB, h => by
    have hD := hm.2 D (by simp)
    have hn := (List.nodup_cons.1 hm.1)
    refine ⟨by simp, .inl ⟨D, _, rfl, run_takeDeferred hD, ?_⟩⟩
    exact leaves_marks Inv hInv base ds _ ⟨hn.2, fun k hk => (World.putObj_heap_other (by rintro rfl; exact hn.1 hk)).trans (hm.2 k (by simp [hk]))⟩ (fun k hk => hB k (by simp [hk])) (hInv W D h (hB D (by simp)) hD)
/-- A sequence that is through: its marks are shut; what it told stands. -/
theorem ends_marks {n : Nat} {fn : Func} {tmps : Array Value} {B N : Nat} {J : Nat → World → Prop} {Jx : World → Prop} (hJ : Mine B J) (hJx : Mine B (fun (_ : Unit) => Jx)) (hres : fn.results = #[]) {ds : List Nat} {W : World} (hm : Marks ds W) (hd : ∀ D ∈ ds, B ≤ D) (h : J N W ∨ Jx W) :
    LeavesInM Fence.wide n Tryz.prog fn tmps (fun e W' => (∃ v, e = .returned v) ∧ (J N W' ∨ Jx W')) (ds.map mark) .returning W :=
  leaves_marks (B := B) (fun W' => J N W' ∨ Jx W') (fun W' D hx hB _ => by
    rcases hx with hx | hx
    · exact .inl (hJ.putObj _ hx hB)
    · exact .inr (hJx.putObj (s := ()) _ hx hB)) (fun W' hx => ⟨_, results_none hres _ _ _, ⟨_, rfl⟩, hx⟩) ds W hm hd h
/-- What one's own steps leave as it lay. -/
theorem Keep.grow {S : Nat → Prop} {top b : Nat} {A X Y : World} {row : Option Nat} (h : Keep S top A X) (hg : X.grownBy Y row) (hr : ∀ k, row = some k → b ≤ k) (hb : A.heap.size ≤ b) : Keep S top A Y :=
  ⟨Nat.le_trans h.size hg.size,
   fun k o hk ho hc => (hg.block k (lt_of_heap (h.high k o hk ho hc)) (fun e => by have := hr k e.symm; have := lt_of_heap ho; omega)).trans (h.high k o hk ho hc),
   fun k o hk ho hc => (hg.block k (lt_of_heap (h.rest k o hk ho hc)) (fun e => by have := hr k e.symm; have := lt_of_heap ho; omega)).trans (h.rest k o hk ho hc)⟩
theorem cells_grown {X Y : World} {row : Option Nat} {b : Nat} {cs : Array Value} {T : TypeId} (hg : X.grownBy Y row) (hr : ∀ k, row = some k → ∃ o : Obj, X.heap[k]? = some o ∧ o.isCells = false) (hb : X.heap[b]? = some (.cells cs T (0, 0))) : Y.heap[b]? = some (.cells cs T (0, 0)) :=
  (hg.block b (lt_of_heap hb) (fun e => by obtain ⟨o, ho, hn⟩ := hr b e.symm; rw [hb] at ho; cases ho; simp [Obj.isCells] at hn)).trans hb
theorem nine_at {w : World} {b : Nat} {v0 v1 v2 v3 v4 v5 v6 v7 v8 : Value} {T : TypeId} (h : w.heap[b]? = some (.cells #[v0, v1, v2, v3, v4, v5, v6, v7, v8] T (0, 0))) :
    w.cell? ⟨b, 0, none⟩ = some v0 ∧ w.cell? ⟨b, 1, none⟩ = some v1 ∧ w.cell? ⟨b, 2, none⟩ = some v2 ∧ w.cell? ⟨b, 3, none⟩ = some v3 ∧ w.cell? ⟨b, 4, none⟩ = some v4 ∧ w.cell? ⟨b, 5, none⟩ = some v5 ∧ w.cell? ⟨b, 6, none⟩ = some v6 ∧ w.cell? ⟨b, 7, none⟩ = some v7 ∧ w.cell? ⟨b, 8, none⟩ = some v8 :=
  ⟨cell_at h 0, cell_at h 1, cell_at h 2, cell_at h 3, cell_at h 4, cell_at h 5, cell_at h 6, cell_at h 7, cell_at h 8⟩
theorem five_at {w : World} {b : Nat} {v0 v1 v2 v3 v4 : Value} {T : TypeId} (h : w.heap[b]? = some (.cells #[v0, v1, v2, v3, v4] T (0, 0))) :
    w.cell? ⟨b, 0, none⟩ = some v0 ∧ w.cell? ⟨b, 1, none⟩ = some v1 ∧ w.cell? ⟨b, 2, none⟩ = some v2 ∧ w.cell? ⟨b, 3, none⟩ = some v3 ∧ w.cell? ⟨b, 4, none⟩ = some v4 :=
  ⟨cell_at h 0, cell_at h 1, cell_at h 2, cell_at h 3, cell_at h 4⟩
theorem sts_mem {w : World} {x : List St} (h : ∀ s ∈ x, StIn w s) {s : St} (hs : s ∈ flatB x) : NdS w s := by
  obtain ⟨t, ht, hs⟩ := List.mem_flatMap.1 hs
  exact h t ht s hs
/-- What a sequence that hands on leans on: the trees; the box of yield; the box of the test. -/
structure Base (w0 : World) (B l b2 h : Nat) (W : World) : Prop where
  low : Low w0 W
  sz : B < W.heap.size
  ty : w0.heap.size ≤ B
  cap : b2 < B
  box : W.heap[B]? = some (.cells #[.func (.yield l) #[] #[]] 60 (0, 0))
  has : W.heap[b2]? = some (.cells #[.func (.func h) #[] #[]] 75 (0, 0))
section
variable {w0 X Y : World} {B l b2 h hi top : Nat} {S : Nat → Prop}
theorem Base.keep (hx : Base w0 B l b2 h X) (hk : Keep S top X Y) (h1 : ∀ b, S b → w0.heap.size ≤ b ∧ b < hi) (h2 : hi ≤ B) (h3 : ¬ S b2) : Base w0 B l b2 h Y :=
  ⟨hx.low.keep h1 hk, Nat.lt_of_lt_of_le hx.sz hk.size, hx.ty, hx.cap, hk.cell (fun hs => by have := (h1 _ hs).2; omega) hx.box, hk.cell h3 hx.has⟩
theorem Base.grown {row : Option Nat} (hx : Base w0 B l b2 h X) (hg : X.grownBy Y row) (hr : ∀ k, row = some k → B < k) : Base w0 B l b2 h Y :=
  ⟨fun k o ho hc => (hg.block k (lt_of_heap (hx.low k o ho hc)) (fun e => by have := hr k e.symm; have := hx.ty; have := lt_of_heap ho; omega)).trans (hx.low k o ho hc), Nat.lt_of_lt_of_le hx.sz hg.size, hx.ty, hx.cap, (hg.block _ (lt_of_heap hx.box) (fun e => by have := hr _ e.symm; omega)).trans hx.box, (hg.block _ (lt_of_heap hx.has) (fun e => by have := hr _ e.symm; have := hx.cap; omega)).trans hx.has⟩
theorem Base.below (hx : Base w0 B l b2 h X) (hb : Below X.heap.size X Y) : Base w0 B l b2 h Y :=
  ⟨hx.low.later hb, Nat.lt_of_lt_of_le hx.sz hb.size, hx.ty, hx.cap, (hb.block _ (lt_of_heap hx.box)).trans hx.box, (hb.block _ (lt_of_heap hx.has)).trans hx.has⟩
end
end Go.Proofs.YtmihlmlojmdhjaaGreatDoor.Tre
