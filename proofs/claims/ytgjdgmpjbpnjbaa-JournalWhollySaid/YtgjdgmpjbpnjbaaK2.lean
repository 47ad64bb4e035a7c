/-
  Texts JSafe, JSafe2, CMem, CLay, CText, CMany, CTake, in one file. What each proves, and its conditions, stand at its head below.
-/
import Derived.Test.YtgjdgmpjbpnjbaaK1
import Derived.Test.YtgjdgmpjbpnjbaaRows
import Derived.WalkKit
import Derived.WalkSpells
import Derived.WalkLawsBesides
import Derived.Below
import Derived.OwnWalk
import Derived.Laws.OwnMore
import Derived.Laws.IdiomStrings
import Derived.Lib.AppendStr
import Derived.Lib.Hide
import Derived.Maps.AppendAt
import Derived.Deep.AppendLies
import Derived.Deep.Draws
import Derived.Laws.BytesArg
import Derived.Laws.BitsAll
/-
  What Open tells of a disk behind a crash, as plain mathematics: just the groups that were there, or these and what was on its way. No program.
-/
namespace Go.Proofs.Ytgjdgmpjbpnjbaa.JourM
open Disk FrameM Codec
set_option maxRecDepth 100000
theorem Holds.last {f : Nat → List UInt8} {n gen : Nat} : ∀ {pos seq : Nat} {gs : List (List UInt8)}, Holds f n gen pos seq gs → pos + takes gs < JourM.room n → getB (f (secAt n gen (pos + takes gs))) = false
  | _, _, [], h, hp => h.2 hp
  | pos, seq, g :: gs, h, hp => by
    simp only [takes] at hp ⊢
    rw [← Nat.add_assoc]
    exact Holds.last h.2.2.2.2 (by omega)
/-- A journal of a generation, with these groups, is what counts. -/
structure Good (f : Nat → List UInt8) (n gen : Nat) (gs : List (List UInt8)) : Prop where
  one : 1 ≤ gen
  big : gen < 9223372036854775808
  head : f (gen % 2) = put (headM gen)
  other : headIn f (1 - gen % 2) < gen
  holds : Holds f n gen 0 0 gs
theorem headIn_congr {f f' : Nat → List UInt8} {i : Nat} (h : f' i = f i) : headIn f' i = headIn f i := by unfold headIn headB; rw [h]
theorem headIn_put {f : Nat → List UInt8} {g : Nat} (h : f (g % 2) = put (headM g)) (hg : g < 9223372036854775808) : headIn f (g % 2) = g := by
  have hm := (getB_put (headM_right g) (headM_fits hg)).2
  have e : (getM (f (g % 2))).gen.toNat = g := by rw [h, hm]; simp [headM]
  unfold headIn headB
  rw [e, h, hm, show (headM g).eq (headM g) = true from Mk.eq_iff.2 rfl]
  simp
theorem headIn_no {f : Nat → List UInt8} {i : Nat} (h : getB (f i) = false) : headIn f i = 0 := by
  unfold headIn
  split
  · rw [getM_no h]; rfl
  · rfl
section
variable {f f' : Nat → List UInt8} {n gen : Nat} {gs : List (List UInt8)}
theorem Good.newest (h : Good f n gen gs) : JourM.newest f = gen := by
  have h1 := headIn_put h.head h.big
  have h2 := h.other
  unfold JourM.newest
  rcases Nat.mod_two_eq_zero_or_one gen with e | e
  · rw [e] at h1 h2
    simp only [Nat.sub_zero] at h2
    omega
  · rw [e] at h1 h2
    simp only [Nat.sub_self] at h2
    omega
theorem Good.groups (h : Good f n gen gs) (hn : n ≤ 65536) : JourM.groups f n gen = gs := h.holds.groups hn h.big (Nat.le_refl _) (by omega)
end
theorem sec_lt {n gen pos : Nat} (hn : 2 ≤ n) (h : pos < room n) : secAt n gen pos < n := by
  unfold secAt
  have hr : 2 + 2 * room n ≤ n := by unfold room; omega
  generalize room n = r at *
  rcases Nat.mod_two_eq_zero_or_one gen with e | e <;> rw [e] <;> omega
theorem sec_add (n gen p q : Nat) : secAt n gen (p + q) = secAt n gen p + q := by unfold secAt; omega
theorem sec_two (n gen p : Nat) : 2 ≤ secAt n gen p := by unfold secAt; omega
theorem sec_end {n gen p k : Nat} (hn : 2 ≤ n) (h : p + k ≤ room n) : secAt n gen p + k ≤ n := by
  unfold secAt
  have hr : 2 + 2 * room n ≤ n := by unfold room; omega
  generalize room n = r at *
  rcases Nat.mod_two_eq_zero_or_one gen with e | e <;> rw [e] <;> omega
/-- The other half lies apart. -/
theorem sec_apart {n gen p : Nat} (hp : p < room n) : secAt n gen p < secAt n (gen + 1) 0 ∨ secAt n (gen + 1) 0 + room n ≤ secAt n gen p := by
  unfold secAt
  generalize room n = r at *
  rcases Nat.mod_two_eq_zero_or_one gen with e | e
  · rw [e, show (gen + 1) % 2 = 1 by omega]; omega
  · rw [e, show (gen + 1) % 2 = 0 by omega]; omega

/-! ### Disks at rest, disks behind a crash -/
structure Rest (d : Dsk) (j : Jr) : Prop where
  ok : d.ok
  n8 : 8 ≤ d.n
  calm : d.waits = fun _ => none
  off : d.off = false
  up : j.down = false
  good : Good (rd d) d.n j.gen j.gs
theorem rd_calm {d : Dsk} (h : d.waits = fun _ => none) {i : Nat} (hi : i < d.n) : rd d i = d.safe i := by
  unfold rd Dsk.read
  rw [if_pos hi, h]
  rfl
theorem crash_n (d : Dsk) (fs : List Int) : (d.crash fs).n = d.n := rfl
theorem crash_rd {d : Dsk} (h : d.ok) (fs : List Int) {i : Nat} (hi : i < d.n) : halfs (d.safe i) (d.read i) (rd (d.crash fs) i) := by
  rw [rd_calm (d := d.crash fs) rfl hi]
  exact crash_halfs h fs _ (Nat.le_refl _) i hi
theorem crash_same {d : Dsk} (h : d.ok) (fs : List Int) {i : Nat} (hi : i < d.n) (hw : d.waits i = none) : rd (d.crash fs) i = d.safe i := by
  have hr : d.read i = d.safe i := by unfold Dsk.read; rw [hw]; rfl
  have := crash_rd h fs hi
  rw [hr] at this
  obtain ⟨h1, h2⟩ := this
  rw [← List.take_append_drop 32 (rd (d.crash fs) i), h1.elim id id, h2.elim id id, List.take_append_drop]
theorem crash_torn {d : Dsk} (h : d.ok) (fs : List Int) {i : Nat} (hi : i < d.n) {s : List UInt8} (hw : d.waits i = some s) : halfs (d.safe i) s (rd (d.crash fs) i) := by
  have hr : d.read i = s := by unfold Dsk.read; rw [hw]; rfl
  have := crash_rd h fs hi
  rwa [hr] at this
theorem rd_out {d : Dsk} {i : Nat} (h : d.n ≤ i) : rd d i = [] := by unfold rd; rw [if_neg (by omega)]
theorem room_pos {n : Nat} (h : 8 ≤ n) : 3 ≤ room n := by unfold room; omega

/-! ### Append -/
theorem all64_ext (n pos : Nat) (b : List UInt8) : ∀ s ∈ extL n pos b, s.length = 64 := by
  intro s hs
  unfold extL endL at hs
  rcases List.mem_append.1 hs with h | h
  · exact pack_all b s h
  · split at h
    · rw [List.mem_singleton.1 h]; rfl
    · cases h
theorem extL_length {n pos : Nat} {b : List UInt8} (h : pos + takes1 b ≤ room n) : pos + 1 + (extL n pos b).length ≤ room n := by
  unfold extL endL
  rw [List.length_append, pack_length]
  unfold takes1 at h ⊢
  split <;> simp <;> omega
theorem extL_pack {n pos : Nat} {b : List UInt8} {i : Nat} (h : i < need b.length) : (extL n pos b).getD i [] = sec b i ∧ i < (extL n pos b).length := by
  unfold extL
  refine ⟨?_, by rw [List.length_append, pack_length]; omega⟩
  rw [getD_left _ _ _ _ (by rw [pack_length]; exact h), sec_get b i h]
theorem extL_end {n pos : Nat} {b : List UInt8} (h : pos + takes1 b < room n) : (extL n pos b).getD (need b.length) [] = nul64 ∧ need b.length < (extL n pos b).length := by
  unfold extL endL
  rw [if_pos h]
  refine ⟨?_, by rw [List.length_append, pack_length]; simp⟩
  rw [getD_right _ _ _ _ (by rw [pack_length]; omega), pack_length, Nat.sub_self]
  rfl
/-- What the half has behind the first Sync of an Append, whatever stands where the mark will. -/
structure Ahead (f f' : Nat → List UInt8) (n gen pos : Nat) (b : List UInt8) : Prop where
  heads : ∀ i, i < 2 → f' i = f i
  before : ∀ p, p < pos → f' (secAt n gen p) = f (secAt n gen p)
  bytes : ∀ i, i < need b.length → f' (secAt n gen (pos + 1 + i)) = sec b i
  end_ : pos + takes1 b < room n → f' (secAt n gen (pos + takes1 b)) = nul64
theorem good_heads {f f' : Nat → List UInt8} {n gen : Nat} {gs gs' : List (List UInt8)} (h : Good f n gen gs) (he : ∀ i, i < 2 → f' i = f i) (hh : Holds f' n gen 0 0 gs') : Good f' n gen gs' :=
  ⟨h.one, h.big, by rw [he _ (Nat.mod_lt _ (by omega))]; exact h.head, by rw [headIn_congr (he _ (by omega))]; exact h.other, hh⟩
theorem Ahead.not_there {f f' : Nat → List UInt8} {n gen : Nat} {gs : List (List UInt8)} {b : List UInt8} (h : Good f n gen gs) (ha : Ahead f f' n gen (takes gs) b) (hx : getB (f' (secAt n gen (takes gs))) = false) : Good f' n gen gs :=
  good_heads h ha.heads (h.holds.congr (fun p _ hp => ha.before p (by omega)) (fun _ => by rw [Nat.zero_add]; exact hx))
theorem Ahead.there {f f' : Nat → List UInt8} {n gen : Nat} {gs : List (List UInt8)} {b : List UInt8} (h : Good f n gen gs) (ha : Ahead f f' n gen (takes gs) b) (hr : takes gs + takes1 b ≤ room n) (hb : b.length ≤ 1048576)
    (hx : f' (secAt n gen (takes gs)) = put (markM gen gs.length b)) : Good f' n gen (gs ++ [b]) := by
  refine good_heads h ha.heads (h.holds.snoc (fun p _ hp => ha.before p (by omega)) ?_)
  rw [Nat.zero_add, Nat.zero_add]
  exact ⟨hr, hb, hx, ha.bytes, hr, fun hp => by rw [ha.end_ hp]; exact getB_nul⟩
theorem ext_ok {d : Dsk} (h : d.ok) (h8 : 8 ≤ d.n) {gen pos seq : Nat} {b : List UInt8} (hr : pos + takes1 b ≤ room d.n) : (keepD d (secAt d.n gen (pos + 1)) (extL d.n pos b)).ok ∧ (extD d gen pos seq b).ok := by
  have h1 := keepD_ok h (sec_end (gen := gen) (by omega) (extL_length hr)) (all64_ext d.n pos b)
  refine ⟨h1, ?_⟩
  unfold extD
  split
  · have ht : takes1 b = 1 + need b.length := rfl
    have := sec_lt (n := d.n) (gen := gen) (pos := pos) (by omega) (by omega)
    exact keepD_ok h1 (by rw [keepD_n]; simp; omega) (fun s hs => by rw [List.mem_singleton.1 hs]; exact put_length (markM_right _ _ _))
  · exact h1
section
variable {d : Dsk} {j : Jr} {b : List UInt8}
/-- The first part of an Append is done. -/
theorem app_first (h : Rest d j) (hr : takes j.gs + takes1 b ≤ room d.n) (hk : keepB d (secAt d.n j.gen (takes j.gs + 1)) (extL d.n (takes j.gs) b) = true) {d1 : Dsk} (h1 : d1 = keepD d (secAt d.n j.gen (takes j.gs + 1)) (extL d.n (takes j.gs) b)) :
    d1.waits = (fun _ => none) ∧ d1.off = false ∧ d1.n = d.n ∧ d1.ok ∧ ∀ f', (∀ i, i < d.n → i ≠ secAt d.n j.gen (takes j.gs) → f' i = d1.safe i) → Ahead (rd d) f' d.n j.gen (takes j.gs) b := by
  subst h1
  obtain ⟨k1, k2, k3⟩ := keep_yes hk h.calm
  have ht : takes1 b = 1 + need b.length := rfl
  have hn : (2 : Nat) ≤ d.n := by have := h.n8; omega
  refine ⟨k2, k3, keepD_n _ _ _, (ext_ok (gen := j.gen) (seq := 0) h.ok h.n8 hr).1, fun f' hf => ⟨fun i hi => ?_, fun p hp => ?_, fun i hi => ?_, fun hp => ?_⟩⟩
  · have hs := sec_two d.n j.gen (takes j.gs)
    have hs2 := sec_two d.n j.gen (takes j.gs + 1)
    rw [hf i (by omega) (by omega), k1, laidAt, if_neg (by omega), rd_calm h.calm (by omega)]
  · have hl := sec_lt (n := d.n) (gen := j.gen) (pos := p) hn (by omega)
    have e1 : secAt d.n j.gen (takes j.gs) = secAt d.n j.gen p + (takes j.gs - p) := by rw [← sec_add]; congr 1; omega
    have e2 : secAt d.n j.gen (takes j.gs + 1) = secAt d.n j.gen p + (takes j.gs + 1 - p) := by rw [← sec_add]; congr 1; omega
    rw [hf _ hl (by omega), k1, laidAt, if_neg (by omega), rd_calm h.calm hl]
  · have hl := sec_lt (n := d.n) (gen := j.gen) (pos := takes j.gs + 1 + i) hn (by omega)
    have e1 := sec_add d.n j.gen (takes j.gs) (1 + i)
    rw [← Nat.add_assoc] at e1
    have e2 := sec_add d.n j.gen (takes j.gs + 1) i
    obtain ⟨g1, g2⟩ := extL_pack (n := d.n) (pos := takes j.gs) hi
    rw [hf _ hl (by omega), k1, laidAt, if_pos (by omega), show secAt d.n j.gen (takes j.gs + 1 + i) - secAt d.n j.gen (takes j.gs + 1) = i by omega, g1]
  · have hl := sec_lt (n := d.n) (gen := j.gen) (pos := takes j.gs + takes1 b) hn hp
    have e1 := sec_add d.n j.gen (takes j.gs) (takes1 b)
    have e2 := sec_add d.n j.gen (takes j.gs + 1) (need b.length)
    rw [show takes j.gs + 1 + need b.length = takes j.gs + takes1 b by omega] at e2
    obtain ⟨g1, g2⟩ := extL_end hp
    rw [hf _ hl (by omega), k1, laidAt, if_pos (by omega), show secAt d.n j.gen (takes j.gs + takes1 b) - secAt d.n j.gen (takes j.gs + 1) = need b.length by omega, g1]
/-- Where the first part is not done, nothing has turned but sectors behind the place of the mark. -/
theorem app_fail (h : Rest d j) (hr : takes j.gs + takes1 b ≤ room d.n) (hk : keepB d (secAt d.n j.gen (takes j.gs + 1)) (extL d.n (takes j.gs) b) = false) (fs : List Int) :
    (keepD d (secAt d.n j.gen (takes j.gs + 1)) (extL d.n (takes j.gs) b)).off = true ∧ Good (rd ((keepD d (secAt d.n j.gen (takes j.gs + 1)) (extL d.n (takes j.gs) b)).crash fs)) d.n j.gen j.gs := by
  obtain ⟨k1, k2, k3⟩ := keep_no hk h.calm
  have hok := (ext_ok (gen := j.gen) (seq := 0) h.ok h.n8 hr).1
  have hn := keepD_n d (secAt d.n j.gen (takes j.gs + 1)) (extL d.n (takes j.gs) b)
  refine ⟨k1, ?_⟩
  have ht : takes1 b = 1 + need b.length := rfl
  have h8 := h.n8
  have key : ∀ i, i < secAt d.n j.gen (takes j.gs + 1) → i < d.n → rd ((keepD d (secAt d.n j.gen (takes j.gs + 1)) (extL d.n (takes j.gs) b)).crash fs) i = rd d i := fun i hi hl => by
    rw [crash_same hok fs (by rw [hn]; exact hl) ((k3 i).elim id (fun ⟨q, _, e, _⟩ => by omega)), k2, rd_calm h.calm hl]
  have hs2 := sec_two d.n j.gen (takes j.gs + 1)
  have e1 := sec_add d.n j.gen (takes j.gs) 1
  have hl := sec_lt (n := d.n) (gen := j.gen) (pos := takes j.gs) (by omega) (by omega)
  refine good_heads h.good (fun i hi => key i (by omega) (by omega)) (h.good.holds.congr (fun p _ hp => ?_) (fun hp => ?_))
  · have e2 : secAt d.n j.gen (takes j.gs) = secAt d.n j.gen p + (takes j.gs - p) := by rw [← sec_add]; congr 1; omega
    exact key _ (by omega) (by omega)
  · rw [Nat.zero_add] at hp ⊢
    rw [key _ (by omega) hl]
    have := h.good.holds.last (by rw [Nat.zero_add]; exact hp)
    rwa [Nat.zero_add] at this
theorem mark_free (h : Rest d j) (hp : takes j.gs < room d.n) : getB (d.safe (secAt d.n j.gen (takes j.gs))) = false := by
  have := h.good.holds.last (by rw [Nat.zero_add]; exact hp)
  have h8 := h.n8
  rw [Nat.zero_add] at this
  rwa [rd_calm h.calm (sec_lt (by omega) hp)] at this
theorem first_keeps (h : Rest d j) (hk : keepB d (secAt d.n j.gen (takes j.gs + 1)) (extL d.n (takes j.gs) b) = true) : (keepD d (secAt d.n j.gen (takes j.gs + 1)) (extL d.n (takes j.gs) b)).safe (secAt d.n j.gen (takes j.gs)) = d.safe (secAt d.n j.gen (takes j.gs)) := by
  obtain ⟨k1, _, _⟩ := keep_yes hk h.calm
  have e1 := sec_add d.n j.gen (takes j.gs) 1
  rw [k1, laidAt, if_neg (by omega)]
/-- An Append that is answered OK. -/
theorem app_done (h : Rest d j) (hb : b.length ≤ 1048576) (hr : takes j.gs + takes1 b ≤ room d.n) (hk : extB d j.gen (takes j.gs) j.gs.length b = true) : Rest (extD d j.gen (takes j.gs) j.gs.length b) { j with gs := j.gs ++ [b] } := by
  have hok := (ext_ok (gen := j.gen) (seq := j.gs.length) h.ok h.n8 hr).2
  simp only [extB, Bool.and_eq_true] at hk
  have hD : extD d j.gen (takes j.gs) j.gs.length b = keepD (keepD d (secAt d.n j.gen (takes j.gs + 1)) (extL d.n (takes j.gs) b)) (secAt d.n j.gen (takes j.gs)) [put (markM j.gen j.gs.length b)] := by unfold extD; rw [if_pos hk.1]
  obtain ⟨a1, a2, a3, a4, a5⟩ := app_first h hr hk.1 rfl
  obtain ⟨k1, k2, k3⟩ := keep_yes hk.2 a1
  have hn := extD_n d j.gen (takes j.gs) j.gs.length b
  have hN : (keepD (keepD d (secAt d.n j.gen (takes j.gs + 1)) (extL d.n (takes j.gs) b)) (secAt d.n j.gen (takes j.gs)) [put (markM j.gen j.gs.length b)]).n = d.n := by rw [← hD]; exact hn
  have ht : takes1 b = 1 + need b.length := rfl
  have h8 := h.n8
  have hl := sec_lt (n := d.n) (gen := j.gen) (pos := takes j.gs) (by omega) (by omega)
  rw [hD] at hok ⊢
  refine ⟨hok, by rw [hN]; exact h.n8, k2, k3, h.up, ?_⟩
  rw [hN]
  refine Ahead.there h.good (a5 _ fun i hi hne => ?_) hr hb ?_
  · rw [rd_calm k2 (by rw [hN]; exact hi), k1, laidAt, if_neg (by simp; omega)]
  · rw [rd_calm k2 (by rw [hN]; exact hl), k1, laidAt, if_pos (by simp), Nat.sub_self]
    rfl
/-- One that is not: behind any crash the group is there, or not. -/
theorem app_torn (h : Rest d j) (hb : b.length ≤ 1048576) (hr : takes j.gs + takes1 b ≤ room d.n) (hk : extB d j.gen (takes j.gs) j.gs.length b = false) (fs : List Int) :
    (extD d j.gen (takes j.gs) j.gs.length b).off = true ∧ (Good (rd ((extD d j.gen (takes j.gs) j.gs.length b).crash fs)) d.n j.gen j.gs ∨ Good (rd ((extD d j.gen (takes j.gs) j.gs.length b).crash fs)) d.n j.gen (j.gs ++ [b])) := by
  have hok := (ext_ok (gen := j.gen) (seq := j.gs.length) h.ok h.n8 hr).2
  have hn := extD_n d j.gen (takes j.gs) j.gs.length b
  cases hk1 : keepB d (secAt d.n j.gen (takes j.gs + 1)) (extL d.n (takes j.gs) b) with
  | false =>
    have hD : extD d j.gen (takes j.gs) j.gs.length b = keepD d (secAt d.n j.gen (takes j.gs + 1)) (extL d.n (takes j.gs) b) := by unfold extD; rw [hk1]; rfl
    rw [hD]
    obtain ⟨g1, g2⟩ := app_fail h hr hk1 fs
    exact ⟨g1, .inl g2⟩
  | true =>
    have hk2 : keepB (keepD d (secAt d.n j.gen (takes j.gs + 1)) (extL d.n (takes j.gs) b)) (secAt d.n j.gen (takes j.gs)) [put (markM j.gen j.gs.length b)] = false := by simpa [extB, hk1] using hk
    have hD : extD d j.gen (takes j.gs) j.gs.length b = keepD (keepD d (secAt d.n j.gen (takes j.gs + 1)) (extL d.n (takes j.gs) b)) (secAt d.n j.gen (takes j.gs)) [put (markM j.gen j.gs.length b)] := by unfold extD; rw [if_pos hk1]
    obtain ⟨a1, a2, a3, a4, a5⟩ := app_first h hr hk1 rfl
    obtain ⟨k1, k2, k3⟩ := keep_no hk2 a1
    have hfk := first_keeps h hk1
    rw [hD] at hok hn ⊢
    generalize keepD d (secAt d.n j.gen (takes j.gs + 1)) (extL d.n (takes j.gs) b) = d1 at *
    generalize keepD d1 (secAt d.n j.gen (takes j.gs)) [put (markM j.gen j.gs.length b)] = d2 at *
    refine ⟨k1, ?_⟩
    have ht : takes1 b = 1 + need b.length := rfl
    have h8 := h.n8
    have hl := sec_lt (n := d.n) (gen := j.gen) (pos := takes j.gs) (by omega) (by omega)
    have hA := a5 (rd (d2.crash fs)) fun i hi hne => by
      rw [crash_same hok fs (by omega) ((k3 i).elim id (fun ⟨q, hq, e, _⟩ => by simp at hq; omega)), k2]
    have hfree := mark_free h (by omega)
    rcases k3 (secAt d.n j.gen (takes j.gs)) with hw | ⟨q, hq, _, hw⟩
    · refine .inl (hA.not_there h.good ?_)
      rw [crash_same hok fs (by omega) hw, k2, hfk]
      exact hfree
    · obtain rfl : q = 0 := by simpa using hq
      have hh := crash_torn hok fs (by omega) hw
      rw [k2, hfk] at hh
      rcases torn_three (markM_right _ _ _) hh with hx | hx | hx
      · exact .inr (hA.there h.good hr hb hx)
      · refine .inl (hA.not_there h.good ?_)
        rw [hx]
        exact hfree
      · exact .inl (hA.not_there h.good hx)
end
end Go.Proofs.Ytgjdgmpjbpnjbaa.JourM
/-
  Reset and Open, as plain mathematics: behind any crash a journal has just what it had, or what the Reset named; opened once more it has the same. No program.
-/
namespace Go.Proofs.Ytgjdgmpjbpnjbaa.JourM
open Disk FrameM Codec
set_option maxRecDepth 100000
theorem laidAll_64 (gen : Nat) : ∀ (seq : Nat) (l : List (List UInt8)), ∀ s ∈ laidAll gen seq l, s.length = 64
  | _, [], s, hs => by cases hs
  | seq, b :: l, s, hs => by
    rw [laidAll_cons] at hs
    rcases List.mem_append.1 hs with h | h
    · unfold laid at h
      rcases List.mem_cons.1 h with rfl | h
      · exact put_length (markM_right _ _ _)
      · exact pack_all b s h
    · exact laidAll_64 gen (seq + 1) l s h
theorem all64_begin (n gen : Nat) (l : List (List UInt8)) : ∀ s ∈ beginL n gen l, s.length = 64 := by
  intro s hs
  unfold beginL endL at hs
  rcases List.mem_append.1 hs with h | h
  · exact laidAll_64 gen 0 l s h
  · split at h
    · rw [List.mem_singleton.1 h]; rfl
    · cases h
theorem beginL_length {n gen : Nat} {l : List (List UInt8)} (h : takes l ≤ room n) : (beginL n gen l).length ≤ room n ∧ takes l ≤ (beginL n gen l).length := by
  unfold beginL endL
  rw [List.length_append, laidAll_length]
  split <;> simp <;> omega
theorem begin_ok {d : Dsk} (h : d.ok) (h8 : 8 ≤ d.n) {gen : Nat} {l : List (List UInt8)} (hr : takes l ≤ room d.n) : (keepD d (secAt d.n gen 0) (beginL d.n gen l)).ok ∧ (beginD d gen l).ok := by
  have h1 := keepD_ok h (sec_end (gen := gen) (p := 0) (by omega) (by rw [Nat.zero_add]; exact (beginL_length hr).1)) (all64_begin d.n gen l)
  refine ⟨h1, ?_⟩
  unfold beginD
  split
  · exact keepD_ok h1 (by rw [keepD_n]; simp; omega) (fun s hs => by rw [List.mem_singleton.1 hs]; exact put_length (headM_right _))
  · exact h1
section
variable {d : Dsk} {l : List (List UInt8)} {gen : Nat}
/-- What the half of a generation has behind the first Sync. -/
theorem begin_first (hw : d.waits = fun _ => none) (h8 : 8 ≤ d.n) (hok : d.ok) (hr : takes l ≤ room d.n) (hb : ∀ b ∈ l, b.length ≤ 1048576) (hk : keepB d (secAt d.n gen 0) (beginL d.n gen l) = true) {d1 : Dsk} (h1 : d1 = keepD d (secAt d.n gen 0) (beginL d.n gen l)) :
    d1.waits = (fun _ => none) ∧ d1.off = false ∧ d1.n = d.n ∧ d1.ok ∧ (∀ i, i < secAt d.n gen 0 ∨ secAt d.n gen 0 + room d.n ≤ i → d1.safe i = d.safe i) ∧ ∀ f', (∀ i, 2 ≤ i → i < d.n → f' i = d1.safe i) → Holds f' d.n gen 0 0 l := by
  subst h1
  obtain ⟨k1, k2, k3⟩ := keep_yes hk hw
  obtain ⟨g1, g2⟩ := beginL_length (gen := gen) hr
  refine ⟨k2, k3, keepD_n _ _ _, (begin_ok hok h8 hr).1, fun i hi => by rw [k1, laidAt, if_neg (by omega)], fun f' hf => ?_⟩
  refine Holds.laid (by omega) hb (fun k hk' => ?_) (fun hp => ?_)
  · have hl := sec_lt (n := d.n) (gen := gen) (pos := 0 + k) (by omega) (by omega)
    have e := sec_add d.n gen 0 k
    rw [hf _ (sec_two _ _ _) hl, k1, laidAt, if_pos (by omega), e, Nat.add_sub_cancel_left]
    unfold beginL
    rw [getD_left _ _ _ _ (by rw [laidAll_length]; exact hk')]
  · have hl := sec_lt (n := d.n) (gen := gen) (pos := 0 + takes l) (by omega) hp
    have e := sec_add d.n gen 0 (takes l)
    rw [Nat.zero_add] at hp
    have hlen : takes l < (beginL d.n gen l).length := by unfold beginL endL; rw [if_pos hp, List.length_append, laidAll_length]; simp
    rw [hf _ (sec_two _ _ _) hl, k1, laidAt, if_pos (by omega), e, Nat.add_sub_cancel_left]
    unfold beginL endL
    rw [if_pos hp, getD_right _ _ _ _ (by rw [laidAll_length]; omega), laidAll_length, Nat.sub_self]
    exact getB_nul
theorem mod_other (gen : Nat) : 1 - gen % 2 = (gen + 1) % 2 ∧ 1 - (gen + 1) % 2 = gen % 2 ∧ gen % 2 ≠ (gen + 1) % 2 := by omega
section
variable {j : Jr}
/-- The half that counts lies apart. -/
theorem holds_apart {f f' : Nat → List UInt8} {n gen : Nat} {gs : List (List UInt8)} (h : Holds f n gen 0 0 gs) (he : ∀ p, p < room n → f' (secAt n gen p) = f (secAt n gen p)) : Holds f' n gen 0 0 gs := by
  have := h.room
  exact h.congr (fun p _ hp => he p (by omega)) (fun hp => by rw [he _ hp]; exact h.last hp)
theorem rst_fail (h : Rest d j) (hr : takes l ≤ room d.n) (hk : keepB d (secAt d.n (j.gen + 1) 0) (beginL d.n (j.gen + 1) l) = false) (fs : List Int) :
    (keepD d (secAt d.n (j.gen + 1) 0) (beginL d.n (j.gen + 1) l)).off = true ∧ Good (rd ((keepD d (secAt d.n (j.gen + 1) 0) (beginL d.n (j.gen + 1) l)).crash fs)) d.n j.gen j.gs := by
  obtain ⟨k1, k2, k3⟩ := keep_no hk h.calm
  have hok := (begin_ok (gen := j.gen + 1) h.ok h.n8 hr).1
  have hn := keepD_n d (secAt d.n (j.gen + 1) 0) (beginL d.n (j.gen + 1) l)
  have h8 := h.n8
  obtain ⟨g1, g2⟩ := beginL_length (gen := j.gen + 1) hr
  refine ⟨k1, ?_⟩
  have key : ∀ i, i < secAt d.n (j.gen + 1) 0 ∨ secAt d.n (j.gen + 1) 0 + room d.n ≤ i → i < d.n → rd ((keepD d (secAt d.n (j.gen + 1) 0) (beginL d.n (j.gen + 1) l)).crash fs) i = rd d i := fun i hi hl => by
    rw [crash_same hok fs (by rw [hn]; exact hl) ((k3 i).elim id (fun ⟨q, _, e, _⟩ => by omega)), k2, rd_calm h.calm hl]
  have hs2 := sec_two d.n (j.gen + 1) 0
  exact good_heads h.good (fun i hi => key i (by omega) (by omega)) (holds_apart h.good.holds fun p hp => key _ (sec_apart hp) (sec_lt (by omega) hp))
/-- What a disk is worth once the other half stands: by its head. -/
theorem rst_head (h : Rest d j) (hg : j.gen + 1 < 9223372036854775808) {f' : Nat → List UInt8} (hold : f' (j.gen % 2) = put (headM j.gen)) (hs : ∀ p, p < room d.n → f' (secAt d.n j.gen p) = rd d (secAt d.n j.gen p)) (hh : Holds f' d.n (j.gen + 1) 0 0 l) :
    (f' ((j.gen + 1) % 2) = put (headM (j.gen + 1)) → Good f' d.n (j.gen + 1) l) ∧ (headIn f' ((j.gen + 1) % 2) < j.gen → Good f' d.n j.gen j.gs) := by
  obtain ⟨m1, m2, m3⟩ := mod_other j.gen
  refine ⟨fun hx => ⟨by omega, hg, hx, ?_, hh⟩, fun hx => ⟨h.good.one, h.good.big, hold, by rw [m1]; exact hx, holds_apart h.good.holds hs⟩⟩
  rw [m2, headIn_put hold h.good.big]
  omega
theorem rst_first (h : Rest d j) {d1 : Dsk} (hs : ∀ i, i < secAt d.n (j.gen + 1) 0 ∨ secAt d.n (j.gen + 1) 0 + room d.n ≤ i → d1.safe i = d.safe i) {f' : Nat → List UInt8} (hf : ∀ i, i < d.n → i ≠ (j.gen + 1) % 2 → f' i = d1.safe i) :
    f' (j.gen % 2) = put (headM j.gen) ∧ ∀ p, p < room d.n → f' (secAt d.n j.gen p) = rd d (secAt d.n j.gen p) := by
  obtain ⟨m1, m2, m3⟩ := mod_other j.gen
  have h8 := h.n8
  have hs2 := sec_two d.n (j.gen + 1) 0
  refine ⟨?_, fun p hp => ?_⟩
  · rw [hf _ (by omega) m3, hs _ (.inl (by omega)), ← h.good.head, rd_calm h.calm (by omega)]
  · have hl := sec_lt (n := d.n) (gen := j.gen) (by omega) hp
    have := sec_two d.n j.gen p
    rw [hf _ hl (by omega), hs _ (sec_apart hp), rd_calm h.calm hl]
/-- A Reset that is answered OK. -/
theorem rst_done (h : Rest d j) (hg : j.gen + 1 < 9223372036854775808) (hb : ∀ b ∈ l, b.length ≤ 1048576) (hr : takes l ≤ room d.n) (hk : beginB d (j.gen + 1) l = true) : Rest (beginD d (j.gen + 1) l) ⟨j.gen + 1, l, false⟩ := by
  have hok := (begin_ok (gen := j.gen + 1) h.ok h.n8 hr).2
  simp only [beginB, Bool.and_eq_true] at hk
  have hD : beginD d (j.gen + 1) l = keepD (keepD d (secAt d.n (j.gen + 1) 0) (beginL d.n (j.gen + 1) l)) ((j.gen + 1) % 2) [put (headM (j.gen + 1))] := by unfold beginD; rw [if_pos hk.1]
  obtain ⟨a1, a2, a3, a4, a5, a6⟩ := begin_first h.calm h.n8 h.ok hr hb hk.1 rfl
  obtain ⟨k1, k2, k3⟩ := keep_yes hk.2 a1
  have hN := beginD_n d (j.gen + 1) l
  rw [hD] at hok hN ⊢
  generalize keepD d (secAt d.n (j.gen + 1) 0) (beginL d.n (j.gen + 1) l) = d1 at *
  generalize keepD d1 ((j.gen + 1) % 2) [put (headM (j.gen + 1))] = d2 at *
  have h8 := h.n8
  have hf : ∀ i, i < d.n → i ≠ (j.gen + 1) % 2 → rd d2 i = d1.safe i := fun i hi hne => by
    rw [rd_calm k2 (by rw [hN]; exact hi), k1, laidAt, if_neg (by simp; omega)]
  obtain ⟨f1, f2⟩ := rst_first h a5 hf
  refine ⟨hok, by rw [hN]; exact h8, k2, k3, rfl, ?_⟩
  rw [hN]
  refine (rst_head h hg f1 f2 (a6 _ fun i h2 hi => hf i hi (by omega))).1 ?_
  rw [rd_calm k2 (by omega), k1, laidAt, if_pos (by simp), Nat.sub_self]
  rfl
theorem rst_torn (h : Rest d j) (hg : j.gen + 1 < 9223372036854775808) (hb : ∀ b ∈ l, b.length ≤ 1048576) (hr : takes l ≤ room d.n) (hk : beginB d (j.gen + 1) l = false) (fs : List Int) :
    (beginD d (j.gen + 1) l).off = true ∧ (Good (rd ((beginD d (j.gen + 1) l).crash fs)) d.n j.gen j.gs ∨ Good (rd ((beginD d (j.gen + 1) l).crash fs)) d.n (j.gen + 1) l) := by
  have hok := (begin_ok (gen := j.gen + 1) h.ok h.n8 hr).2
  have hN := beginD_n d (j.gen + 1) l
  cases hk1 : keepB d (secAt d.n (j.gen + 1) 0) (beginL d.n (j.gen + 1) l) with
  | false =>
    have hD : beginD d (j.gen + 1) l = keepD d (secAt d.n (j.gen + 1) 0) (beginL d.n (j.gen + 1) l) := by unfold beginD; rw [hk1]; rfl
    rw [hD]
    obtain ⟨g1, g2⟩ := rst_fail h hr hk1 fs
    exact ⟨g1, .inl g2⟩
  | true =>
    have hk2 : keepB (keepD d (secAt d.n (j.gen + 1) 0) (beginL d.n (j.gen + 1) l)) ((j.gen + 1) % 2) [put (headM (j.gen + 1))] = false := by simpa [beginB, hk1] using hk
    have hD : beginD d (j.gen + 1) l = keepD (keepD d (secAt d.n (j.gen + 1) 0) (beginL d.n (j.gen + 1) l)) ((j.gen + 1) % 2) [put (headM (j.gen + 1))] := by unfold beginD; rw [if_pos hk1]
    obtain ⟨a1, a2, a3, a4, a5, a6⟩ := begin_first h.calm h.n8 h.ok hr hb hk1 rfl
    obtain ⟨k1, k2, k3⟩ := keep_no hk2 a1
    rw [hD] at hok hN ⊢
    generalize keepD d (secAt d.n (j.gen + 1) 0) (beginL d.n (j.gen + 1) l) = d1 at *
    generalize keepD d1 ((j.gen + 1) % 2) [put (headM (j.gen + 1))] = d2 at *
    refine ⟨k1, ?_⟩
    have h8 := h.n8
    obtain ⟨m1, m2, m3⟩ := mod_other j.gen
    have hf : ∀ i, i < d.n → i ≠ (j.gen + 1) % 2 → rd (d2.crash fs) i = d1.safe i := fun i hi hne => by
      rw [crash_same hok fs (by omega) ((k3 i).elim id (fun ⟨q, hq, e, _⟩ => by simp at hq; omega)), k2]
    obtain ⟨f1, f2⟩ := rst_first h a5 hf
    obtain ⟨r1, r2⟩ := rst_head (l := l) h hg f1 f2 (a6 _ fun i h2 hi => hf i hi (by omega))
    have hs2 := sec_two d.n (j.gen + 1) 0
    have hold : d1.safe ((j.gen + 1) % 2) = rd d ((j.gen + 1) % 2) := by rw [a5 _ (.inl (by omega)), rd_calm h.calm (by omega)]
    have hlow := h.good.other
    rw [m1] at hlow
    rcases k3 ((j.gen + 1) % 2) with hw | ⟨q, hq, _, hw⟩
    · refine .inl (r2 ?_)
      rw [headIn_congr (f := rd d) (by rw [crash_same hok fs (by omega) hw, k2, hold])]
      exact hlow
    · obtain rfl : q = 0 := by simpa using hq
      have hh := crash_torn hok fs (by omega) hw
      rw [k2] at hh
      rcases torn_three (headM_right _) hh with hx | hx | hx
      · exact .inr (r1 hx)
      · refine .inl (r2 ?_)
        rw [headIn_congr (f := rd d) (by rw [hx, hold])]
        exact hlow
      · refine .inl (r2 ?_)
        rw [headIn_no hx]
        exact h.good.one
end

/-! ### Open -/
/-- Behind a crash: what Open tells. -/
theorem open_good {gs : List (List UInt8)} (hok : d.ok) (h8 : 8 ≤ d.n) (hw : d.waits = fun _ => none) (ho : d.off = false) (h : Good (rd d) d.n gen gs) : openB d = true ∧ openD d = d ∧ openJ d = ⟨gen, gs, false⟩ ∧ Rest d ⟨gen, gs, false⟩ := by
  have hn := h.newest
  have h1 := h.one
  have hD : openD d = d := by unfold openD; rw [hn, if_neg (by omega)]
  have hG : openG d = gen := by unfold openG; rw [hn, if_neg (by omega)]
  refine ⟨by unfold openB; rw [hn, if_neg (by omega)], hD, ?_, ⟨hok, h8, hw, ho, rfl, h⟩⟩
  unfold openJ
  rw [hD, hG, h.groups hok.2.1]
/-- A crash of a disk at rest. -/
theorem rest_crash {j : Jr} (h : Rest d j) (fs : List Int) : Rest (d.crash fs) j := by
  refine ⟨Dsk.crash_ok h.ok fs, h.n8, rfl, rfl, h.up, ?_⟩
  have e : rd (d.crash fs) = rd d := by
    funext i
    by_cases hi : i < d.n
    · rw [crash_same h.ok fs hi (by rw [h.calm]), rd_calm h.calm hi]
    · rw [rd_out (d := d.crash fs) (by rw [crash_n]; omega), rd_out (by omega)]
  rw [e]
  exact h.good
/-- What Stop leaves: the same, its power off, or not. -/
structure Still (d : Dsk) (j : Jr) : Prop where
  ok : d.ok
  n8 : 8 ≤ d.n
  calm : d.waits = fun _ => none
  up : j.down = false
  good : Good (rd d) d.n j.gen j.gs
theorem Rest.still {j : Jr} (h : Rest d j) : Still d j := ⟨h.ok, h.n8, h.calm, h.up, h.good⟩
theorem Still.rest {j : Jr} (h : Still d j) (ho : d.off = false) : Rest d j := ⟨h.ok, h.n8, h.calm, ho, h.up, h.good⟩
theorem rd_eq {d d' : Dsk} (hn : d'.n = d.n) (hs : d'.safe = d.safe) (hw : d'.waits = d.waits) : rd d' = rd d := by
  funext i
  unfold rd Dsk.read
  rw [hn, hs, hw]
theorem Still.stop {j : Jr} (h : Still d j) {k : Int} (h1 : -9223372036854775808 ≤ k) (h2 : k ≤ 9223372036854775807) : Still (d.stop k) j :=
  ⟨Dsk.stop_ok h.ok h1 h2, h.n8, h.calm, h.up, by rw [rd_eq (d := d) (d' := d.stop k) rfl rfl rfl]; exact h.good⟩
theorem Still.crash {j : Jr} (h : Still d j) (fs : List Int) : Rest (d.crash fs) j := by
  refine ⟨Dsk.crash_ok h.ok fs, h.n8, rfl, rfl, h.up, ?_⟩
  have e : rd (d.crash fs) = rd d := by
    funext i
    by_cases hi : i < d.n
    · rw [crash_same h.ok fs hi (by rw [h.calm]), rd_calm h.calm hi]
    · rw [rd_out (d := d.crash fs) (by rw [crash_n]; omega), rd_out (by omega)]
  rw [e]
  exact h.good
theorem Rest.opened {j : Jr} (h : Rest d j) : openB d = true ∧ openD d = d ∧ openJ d = j := by
  obtain ⟨h1, h2, h3, _⟩ := open_good h.ok h.n8 h.calm h.off h.good
  refine ⟨h1, h2, ?_⟩
  rw [h3]
  obtain ⟨g, gs, dn⟩ := j
  have := h.up
  simp only at this
  rw [this]

/-! ### A disk that does not stop -/
def Free (d : Dsk) : Prop := d.off = false ∧ d.stops = false
theorem Free.go (h : Free d) : JourM.go d = true := by simp [JourM.go, Dsk.done, h.1, h.2]
theorem Free.deed (h : Free d) : d.deed = d := by unfold Dsk.deed; rw [h.2]; rfl
theorem Free.wr (h : Free d) (i : Nat) (s : List UInt8) : Free (JourM.wr d i s) := by
  rw [wr_go h.go, h.deed]
  exact h
theorem Free.wrs (h : Free d) (i : Nat) (l : List (List UInt8)) : wrsB d i l = true ∧ Free (wrsD d i l) := by
  induction l generalizing d i with
  | nil => exact ⟨rfl, h⟩
  | cons s l ih =>
    rw [wrsB_cons, wrsD_cons, h.go]
    exact ih (h.wr i s) (i + 1)
theorem Free.keep (h : Free d) (i : Nat) (l : List (List UInt8)) : keepB d i l = true ∧ Free (keepD d i l) := by
  obtain ⟨h1, h2⟩ := h.wrs i l
  refine ⟨by simp [keepB, h1, h2.go], ?_⟩
  unfold keepD
  rw [h1, if_pos rfl, sy_go h2.go, h2.deed]
  exact h2
theorem Free.begin (h : Free d) (gen : Nat) (l : List (List UInt8)) : beginB d gen l = true ∧ Free (beginD d gen l) := by
  obtain ⟨h1, h2⟩ := h.keep (secAt d.n gen 0) (beginL d.n gen l)
  obtain ⟨h3, h4⟩ := h2.keep (gen % 2) [put (headM gen)]
  refine ⟨by simp [beginB, h1, h3], ?_⟩
  unfold beginD
  rw [h1, if_pos rfl]
  exact h4
theorem Free.ext (h : Free d) (gen pos seq : Nat) (b : List UInt8) : extB d gen pos seq b = true ∧ Free (extD d gen pos seq b) := by
  obtain ⟨h1, h2⟩ := h.keep (secAt d.n gen (pos + 1)) (extL d.n pos b)
  obtain ⟨h3, h4⟩ := h2.keep (secAt d.n gen pos) [put (markM gen seq b)]
  refine ⟨by simp [extB, h1, h3], ?_⟩
  unfold extD
  rw [h1, if_pos rfl]
  exact h4
theorem fresh_free (n : Nat) : Free (fresh n) := ⟨rfl, rfl⟩
theorem fresh_newest (n : Nat) (h : 8 ≤ n) : newest (rd (fresh n)) = 0 := by
  have e : ∀ i, i < 2 → rd (fresh n) i = nul64 := fun i hi => by rw [rd_calm (d := fresh n) rfl (by show i < n; omega)]; rfl
  unfold newest
  rw [headIn_no (by rw [e 0 (by omega)]; exact getB_nul), headIn_no (by rw [e 1 (by omega)]; exact getB_nul)]
  rfl
/-- The first Open. -/
theorem fresh_open (n : Nat) (h8 : 8 ≤ n) (hn : n ≤ 65536) : openB (fresh n) = true ∧ openJ (fresh n) = ⟨1, [], false⟩ ∧ Rest (openD (fresh n)) ⟨1, [], false⟩ ∧ Free (openD (fresh n)) := by
  have hnw := fresh_newest n h8
  obtain ⟨b1, b2⟩ := (fresh_free n).begin 1 []
  have hok := fresh_ok (n := n) (by omega) hn
  have hD : openD (fresh n) = beginD (fresh n) 1 [] := by unfold openD; rw [hnw, if_pos rfl]
  have hG : openG (fresh n) = 1 := by unfold openG; rw [hnw, if_pos rfl]
  have hR : Rest (beginD (fresh n) 1 []) ⟨1, [], false⟩ := by
    have hok2 := (begin_ok (gen := 1) (l := []) hok h8 (by simp [takes])).2
    have hk := b1
    simp only [beginB, Bool.and_eq_true] at hk
    have hD2 : beginD (fresh n) 1 [] = keepD (keepD (fresh n) (secAt (fresh n).n 1 0) (beginL (fresh n).n 1 [])) (1 % 2) [put (headM 1)] := by unfold beginD; rw [if_pos hk.1]
    obtain ⟨a1, a2, a3, a4, a5, a6⟩ := begin_first (d := fresh n) (l := []) rfl h8 hok (by simp [takes]) (by simp) hk.1 rfl
    obtain ⟨k1, k2, k3⟩ := keep_yes hk.2 a1
    have hN := beginD_n (fresh n) 1 []
    have hs2 := sec_two n 1 0
    rw [hD2] at hok2 hN ⊢
    generalize keepD (fresh n) (secAt (fresh n).n 1 0) (beginL (fresh n).n 1 []) = d1 at *
    generalize keepD d1 (1 % 2) [put (headM 1)] = d2 at *
    have hNn : d2.n = n := hN
    refine ⟨hok2, by rw [hNn]; exact h8, k2, k3, rfl, ?_⟩
    rw [hNn]
    refine ⟨Nat.le_refl _, by decide, ?_, ?_, a6 _ fun i h2 hi => ?_⟩
    · rw [rd_calm k2 (by omega), k1, laidAt, if_pos (by simp), Nat.sub_self]
      rfl
    · rw [headIn_no]
      · exact Nat.one_pos
      · rw [rd_calm k2 (by omega), k1, laidAt, if_neg (by simp), a5 (1 - 1 % 2) (.inl (by show 1 - 1 % 2 < secAt n 1 0; omega))]
        exact getB_nul
    · have hi : i < n := hi
      have hi2 : i < d2.n := by omega
      rw [rd_calm k2 hi2, k1, laidAt, if_neg (by simp; omega)]
  refine ⟨by unfold openB; rw [hnw, if_pos rfl]; exact b1, ?_, by rw [hD]; exact hR, by rw [hD]; exact b2⟩
  unfold openJ
  rw [hD, hG]
  have := hR.good.groups (by rw [beginD_n]; exact hn)
  rw [beginD_n] at this
  rw [this]
end
end Go.Proofs.Ytgjdgmpjbpnjbaa.JourM
/-
  Memory, in the words of this layer: bytes that a slice reads as; a row of bytes that the call made; a Writer; a Reader (the program's and the document's). Appending bytes to a row of the call's own. No condition beyond the sizes that each law names.
-/
namespace Go.Proofs.Ytgjdgmpjbpnjbaa.Cod
open Go.RowKit Codec
set_option maxRecDepth 100000
def byt (x : UInt8) : Value := .int .u8 (x.toNat : Int)
def cel (xs : List UInt8) : List Value := xs.map byt
theorem cel_length (xs : List UInt8) : (cel xs).length = xs.length := by simp [cel]
theorem cel_app (xs ys : List UInt8) : cel xs ++ cel ys = cel (xs ++ ys) := by simp [cel]
theorem cel_one (xs : List UInt8) : ∀ u ∈ cel xs, u.oneCell' = true := by
  intro u hu
  obtain ⟨x, _, rfl⟩ := List.mem_map.1 hu
  rfl
theorem cel_get (xs : List UInt8) (j : Nat) (h : j < xs.length) : (cel xs)[j]? = some (byt (xs.getD j 0)) := by simp [cel, h]
theorem plain_add (b off j : Nat) : (⟨b, off, none⟩ : Addr).add j = ⟨b, off + j, none⟩ := by unfold Addr.add; split <;> simp_all
theorem lt_of_heap {w : World} {g : Nat} {o : Obj} (h : w.heap[g]? = some o) : g < w.heap.size := (Array.getElem?_eq_some_iff.1 h).1

/-- The slice of n bytes at A is xs; it lies below block B. -/
structure Byts (w : World) (B : Nat) (A : Option Addr) (n : Nat) (xs : List UInt8) : Prop where
  len : xs.length = n
  at_ : 0 < n → ∃ b off, A = some ⟨b, off, none⟩ ∧ b < B ∧ ∀ j, j < n → w.cell? ⟨b, off + j, none⟩ = some (byt (xs.getD j 0))
theorem Byts.none_ {w : World} {B : Nat} {A : Option Addr} : Byts w B A 0 [] := ⟨rfl, fun h => absurd h (by omega)⟩
section
variable {w w' : World} {B B' n : Nat} {A : Option Addr} {xs : List UInt8}
theorem Byts.keep (h : Byts w B A n xs) (hk : ∀ k, k < B → w'.heap[k]? = w.heap[k]?) : Byts w' B A n xs :=
  ⟨h.len, fun hn => by
    obtain ⟨b, off, e, hb, hc⟩ := h.at_ hn
    exact ⟨b, off, e, hb, fun j hj => (World.cell?_of_block (w := w) (hk b hb)).trans (hc j hj)⟩⟩
theorem Byts.more (h : Byts w B A n xs) (hB : B ≤ B') : Byts w B' A n xs :=
  ⟨h.len, fun hn => by
    obtain ⟨b, off, e, hb, hc⟩ := h.at_ hn
    exact ⟨b, off, e, by omega, hc⟩⟩
theorem Byts.below (h : Byts w B A n xs) (hb : Below B w w') : Byts w' B A n xs := h.keep hb.block
theorem Byts.alloc (h : Byts w B A n xs) (hB : B ≤ w.heap.size) (o : Obj) : Byts (w.alloc o) B A n xs := h.keep fun k hk => Below.heap_alloc w o k (by omega)
theorem Byts.drewN (h : Byts w B A n xs) (m : Nat) : Byts (w.drewN m) B A n xs := ⟨h.len, h.at_⟩
theorem Byts.setCell (h : Byts w B A n xs) {p : Addr} (hp : B ≤ p.block) (u : Value) : Byts (w.setCell p u) B A n xs := h.keep fun k hk => Below.heap_setCell w p u k (by omega)
theorem Byts.take (h : Byts w B A n xs) (k : Nat) (hk : k ≤ n) : Byts w B A k (xs.take k) :=
  ⟨by rw [List.length_take, h.len]; omega, fun h0 => by
    obtain ⟨b, off, e, hb, hc⟩ := h.at_ (by omega)
    exact ⟨b, off, e, hb, fun j hj => by rw [hc j (by omega)]; simp [List.getD_eq_getElem?_getD, hj]⟩⟩
theorem Byts.drop (h : Byts w B A n xs) (k c : Nat) (hk : k ≤ n) (hc : n ≤ c) : Byts w B (if c = k then A else A.map (·.add k)) (n - k) (xs.drop k) :=
  ⟨by rw [List.length_drop, h.len], fun h0 => by
    obtain ⟨b, off, rfl, hb, hc⟩ := h.at_ (by omega)
    rw [if_neg (by omega)]
    exact ⟨b, off + k, by rw [Option.map_some, plain_add], hb, fun j hj => by rw [Nat.add_assoc, hc (k + j) (by omega)]; simp [List.getD_eq_getElem?_getD]⟩⟩
end

/-- The slice value owns these bytes, in blocks from base on. -/
def Owns (w : World) (base : Nat) (v : Value) (n : Nat) (xs : List UInt8) : Prop := w.ownsRow base 5 1 v n (cel xs)
section
variable {w w' : World} {base n c : Nat} {v : Value} {A : Option Addr} {xs : List UInt8}
theorem Owns.len (h : Owns w base v n xs) : xs.length = n := by have := h.1; rw [cel_length] at this; omega
theorem Owns.nil : Owns w base (.slice none 0 0) 0 [] := World.ownsRow_nil w base 5 1
theorem Owns.form (h : Owns w base v n xs) : ∃ A c, v = .slice A n c ∧ n ≤ c ∧ c ≤ maxLen := by
  rcases h.2 with ⟨rfl, rfl⟩ | ⟨g, cap, cur, rfl, _, _, h1, h2, _⟩
  · exact ⟨none, 0, rfl, Nat.le_refl _, by unfold maxLen; omega⟩
  · exact ⟨_, cap, rfl, h1, h2⟩
theorem Owns.byts (h : Owns w base (.slice A n c) n xs) : Byts w w.heap.size A n xs := by
  refine ⟨h.len, fun hn => ?_⟩
  obtain ⟨g, cap, hv, _, hlt⟩ := World.ownsRow.form h hn
  have hA : A = some ⟨g, 0, none⟩ := by injection hv
  subst hA
  refine ⟨g, 0, rfl, hlt, fun j hj => ?_⟩
  have := h.cells (g := g) rfl j _ (cel_get xs j (by have := h.len; omega))
  rwa [plain_add] at this
theorem Owns.keep (h : Owns w base v n xs) {row : Option Nat} (hg : w.grownBy w' row) (hne : v.ownBlock = none ∨ v.ownBlock ≠ row) : Owns w' base v n xs := World.ownsRow.kept h hg hne
theorem Owns.alloc (h : Owns w base v n xs) (o : Obj) : Owns (w.alloc o) base v n xs := World.ownsRow.alloc h o
theorem Owns.below (h : Owns w base v n xs) (hb : Below w.heap.size w w') : Owns w' base v n xs :=
  World.ownsRow.kept (row := none) h ⟨hb.os, hb.tape, hb.output, hb.size, fun k hk _ => hb.block k hk⟩ (by cases hv : v.ownBlock <;> simp)
theorem Owns.lower {base' : Nat} (h : Owns w base v n xs) (hb : base' ≤ base) : Owns w base' v n xs := by
  refine ⟨h.1, ?_⟩
  rcases h.2 with h0 | ⟨g, cap, cur, hv, hg, r⟩
  · exact .inl h0
  · exact .inr ⟨g, cap, cur, hv, by omega, r⟩
theorem Owns.far (h : Owns w base v n xs) {g : Nat} {cs : Array Value} {T : TypeId} (hg : w.heap[g]? = some (.cells cs T (0, 0))) (hT : T ≠ 5) : v.ownBlock ≠ some g := by
  rcases h.2 with ⟨rfl, _⟩ | ⟨k, cap, cur, rfl, _, hh, _⟩
  · simp [Value.ownBlock]
  · intro he
    have : k = g := by simpa [Value.ownBlock] using he
    subst this
    rw [hh] at hg
    injection hg with hg
    injection hg with _ ht
    exact hT ht.symm
end

theorem info5 : (Try.prog.info? 5).map (fun i => (i.zero, i.size, i.bytes)) = some (some (.int .u8 0), 1, 1) := by kernel_rfl
/-- Appending bytes to a row of the call's own: the source nil, empty or not. -/
theorem run_app (w : World) (ty : TypeId) (base : Nat) (v : Value) (n : Nat) (xs : List UInt8) (hown : Owns w base v n xs) (B : Nat) (A : Option Addr) (m c : Nat) (ys : List UInt8) (hr : Byts w B A m ys)
    (hn : n + m ≤ 1000000000) (hbase : base ≤ w.heap.size) :
    ∃ A' c' w', (Builtin.append_ #[35, 35] ty #[v, .slice A m c]).run Try.prog w = .ok (.slice A' (n + m) c') w' ∧ Owns w' base (.slice A' (n + m) c') (n + m) (xs ++ ys) ∧ w.grownBy w' v.ownBlock := by
  obtain ⟨i0, hi0, hz0, hz1, hz2⟩ := info_parts info5
  have hown0 : w.ownsRow base 5 1 v n (cel xs) := hown
  have key : ∃ v' w', (Builtin.append_ #[35, 35] ty #[v, .slice A m c]).run Try.prog w = .ok v' w' ∧ w'.ownsRow base 5 1 v' (n + m) (cel xs ++ cel ys) ∧ w.grownBy w' v.ownBlock := by
    rcases A with _ | ad
    · have hm : m = 0 := by
        rcases Nat.eq_zero_or_pos m with h0 | h0
        · exact h0
        · obtain ⟨b, off, h, _⟩ := hr.at_ h0
          cases h
      subst hm
      have hy : ys = [] := List.eq_nil_of_length_eq_zero hr.len
      subst hy
      refine ⟨v, w, ?_, by simpa [cel] using hown0, ⟨rfl, rfl, rfl, Nat.le_refl _, fun _ _ _ => rfl⟩⟩
      rcases hown0.2 with ⟨rfl, rfl⟩ | ⟨g, cap, cur, rfl, _, _, hnc, _⟩
      · simp [Builtin.append_, run_underlying Try.underlying35, sizeOf, typeInfo, hi0, Builtin.lenOf, Builtin.firstCells]
      · simp [Builtin.append_, run_underlying Try.underlying35, sizeOf, typeInfo, hi0, Builtin.lenOf, Builtin.firstCells, hnc, storeCells]
    · have hcells : ∀ j u, (cel ys)[j]? = some u → w.cell? (ad.add j) = some u := by
        intro j u hu
        have hj : j < m := by
          have := (List.getElem?_eq_some_iff.1 hu).1
          rw [cel_length, hr.len] at this
          exact this
        obtain ⟨b, off, h, _, hc⟩ := hr.at_ (by omega)
        injection h with h
        subst h
        rw [plain_add, hc j hj, ← cel_get ys j (by rw [hr.len]; exact hj)]
        exact hu
      obtain ⟨v', w', hrun, h2, h3, _, _⟩ := run_append_own_at (P := Try.prog) w base 35 ty 5 i0 (.int .u8 0) 1 1 Try.underlying35 hi0 hz0 hz1 hz2 rfl (by decide) v n (cel xs) hown0 ad m c (cel ys)
        (by rw [cel_length, hr.len, Nat.mul_one]) hcells (cel_one ys) (by unfold maxLen; omega) (by omega) hbase
      exact ⟨v', w', hrun, h2, h3⟩
  obtain ⟨v', w', hrun, h2, h3⟩ := key
  rw [cel_app] at h2
  obtain ⟨A', c', rfl, _, _⟩ := Owns.form h2
  exact ⟨A', c', w', hrun, h2, h3⟩
theorem wpList_app (w : World) {ops : Array Oper} {rest : List Oper} {o : Oper} {a : Act} {Q : Exit → Act → World → Prop} (hgd : o.guard = none) (s x : Operand)
    (ho : o.op = .call { callee := .builtin .append, args := #[s, x], argTypes := #[35, 35] })
    (base : Nat) (v : Value) (n : Nat) (xs : List UInt8) (hs : a.eval s = v) (hown : Owns w base v n xs) (B : Nat) (A : Option Addr) (m c : Nat) (ys : List UInt8) (hx : a.eval x = .slice A m c) (hr : Byts w B A m ys)
    (hn : n + m ≤ 1000000000) (hbase : base ≤ w.heap.size)
    (h : ∀ A' c' w', Owns w' base (.slice A' (n + m) c') (n + m) (xs ++ ys) → w.grownBy w' v.ownBlock → wpList Try.prog ops Q rest (a.put o.dst (.slice A' (n + m) c')) w') : wpList Try.prog ops Q (o :: rest) a w := by
  obtain ⟨A', c', w', hrun, h2, h3⟩ := run_app w o.type base v n xs hown B A m c ys hr hn hbase
  refine wpList_plain hgd fun _ hK => ?_
  unfold Oper.wp execOp
  simp only [ho, resolve, invoke, builtin, Sem.run_bind, Sem.run_pure, Result.andThen_ok, List.map_toArray, List.map_cons, List.map_nil, hs, hx, hrun]
  exact hK _ _ (h A' c' w' h2 h3)

/-- A Writer: block g holds a slice that owns these bytes, all from base on. -/
def Wr (w : World) (base g : Nat) (xs : List UInt8) : Prop :=
  ∃ A n c, w.heap[g]? = some (.cells #[.slice A n c] 109 (0, 0)) ∧ Owns w base (.slice A n c) n xs ∧ base ≤ g
/-- A Reader (the program's: 59, the document's: 37): block g holds what is left, which lies below B, and whether it is bad. -/
def Rdr (T : TypeId) (w : World) (B g : Nat) (s : St) : Prop :=
  s.ok ∧ B ≤ g ∧ ∃ A n c, w.heap[g]? = some (.cells #[.slice A n c, .bool s.bad] T (0, 0)) ∧ Byts w B A n s.left ∧ n ≤ c ∧ c ≤ maxLen ∧ n ≤ 1000000000
theorem Rdr.keep {T : TypeId} {w w' : World} {B g : Nat} {s : St} (h : Rdr T w B g s) (hk : ∀ k, k < B → w'.heap[k]? = w.heap[k]?) (hg : w'.heap[g]? = w.heap[g]?) : Rdr T w' B g s := by
  obtain ⟨h1, h2, A, n, c, h3, h4, h5⟩ := h
  exact ⟨h1, h2, A, n, c, hg.trans h3, h4.keep hk, h5⟩
theorem Rdr.lt {T : TypeId} {w : World} {B g : Nat} {s : St} (h : Rdr T w B g s) : g < w.heap.size := by
  obtain ⟨_, _, A, n, c, h3, _⟩ := h
  exact lt_of_heap h3
/-- What is written to another block, from B on, leaves it. -/
theorem Rdr.grown {T : TypeId} {w w' : World} {B g k : Nat} {s : St} (h : Rdr T w B g s) (hw : w.grownBy w' (some k)) (hB : B ≤ k) (hne : g ≠ k) : Rdr T w' B g s :=
  h.keep (fun j hj => hw.block j (by have := h.lt; have := h.2.1; omega) (by simp; omega)) (hw.block g h.lt (by simp; exact hne))
theorem Rdr.below {T : TypeId} {w w' : World} {B g : Nat} {s : St} (h : Rdr T w B g s) (hw : Below w.heap.size w w') : Rdr T w' B g s :=
  h.keep (fun j hj => hw.block j (by have := h.lt; have := h.2.1; omega)) (hw.block g h.lt)
theorem grown_refl (w : World) (row : Option Nat) : w.grownBy w row := ⟨rfl, rfl, rfl, Nat.le_refl _, fun _ _ _ => rfl⟩
theorem grown_trans {a b c : World} {row : Option Nat} (h : a.grownBy b row) (k : b.grownBy c row) : a.grownBy c row :=
  ⟨k.os.trans h.os, k.tape.trans h.tape, k.output.trans h.output, Nat.le_trans h.size k.size, fun i hi hne => (k.block i (Nat.lt_of_lt_of_le hi h.size) hne).trans (h.block i hi hne)⟩
theorem grown_set (w : World) (g i : Nat) (u : Value) : w.grownBy (w.setCell ⟨g, i, none⟩ u) (some g) :=
  ⟨rfl, rfl, rfl, by simp [World.setCell], fun k _ hne => Below.heap_setCell w _ u k (by rintro rfl; exact hne rfl)⟩
theorem grown_below {w w' : World} {g : Nat} (h : w.grownBy w' (some g)) (B : Nat) (hB : B ≤ g) (hw : B ≤ w.heap.size) : Below B w w' :=
  ⟨h.os, h.tape, h.output, h.size, fun k hk => h.block k (by omega) (by simp; omega)⟩
/-- Block g, known whole: its cells, its marks. -/
theorem cell_at {w : World} {g : Nat} {cs : Array Value} {T : TypeId} (h : w.heap[g]? = some (.cells cs T (0, 0))) (i : Nat) : w.cell? ⟨g, i, none⟩ = cs[i]? := by simp [World.cell?, h]
theorem free_at {w : World} {g : Nat} {cs : Array Value} {T : TypeId} (h : w.heap[g]? = some (.cells cs T (0, 0))) (i : Nat) : w.frozen? ⟨g, i, none⟩ = false := by simp [World.frozen?, h]
theorem set_at {w : World} {g : Nat} {cs : Array Value} {T : TypeId} (h : w.heap[g]? = some (.cells cs T (0, 0))) (i : Nat) (u : Value) :
    (w.setCell ⟨g, i, none⟩ u).heap[g]? = some (.cells (cs.setIfInBounds i u) T (0, 0)) := by simp [World.setCell, Array.getElem?_modify, h]
/-- The program's store behind the append. -/
theorem Wr.stored {w w1 : World} {base g n m c c' : Nat} {A A' : Option Addr} {xs ys : List UInt8} (hg : w.heap[g]? = some (.cells #[.slice A n c] 109 (0, 0))) (hown : Owns w base (.slice A n c) n xs) (hb : base ≤ g) (hB : base ≤ w.heap.size)
    (h1 : Owns w1 base (.slice A' (n + m) c') (n + m) (xs ++ ys)) (hw : w.grownBy w1 (Value.ownBlock (.slice A n c))) :
    w1.heap[g]? = some (.cells #[.slice A n c] 109 (0, 0)) ∧ Wr (w1.setCell ⟨g, 0, none⟩ (.slice A' (n + m) c')) base g (xs ++ ys) ∧ Below base w (w1.setCell ⟨g, 0, none⟩ (.slice A' (n + m) c')) := by
  have hne := hown.far hg (by decide)
  have hg1 : w1.heap[g]? = some (.cells #[.slice A n c] 109 (0, 0)) := (hw.block g (lt_of_heap hg) (fun e => hne e.symm)).trans hg
  have hne1 := h1.far hg1 (by decide)
  refine ⟨hg1, ⟨A', n + m, c', set_at hg1 0 _, h1.keep (grown_set w1 g 0 _) (.inr hne1), hb⟩, ?_⟩
  exact ((Below.refl base w).grown hw hB (fun k hk => (World.ownsRow.lt hown k hk).1)).setCell hb _
end Go.Proofs.Ytgjdgmpjbpnjbaa.Cod
/-
  What the program's Writer does: lay, number. Conditions: the Writer's block is known; the sizes are named.
-/
namespace Go.Proofs.Ytgjdgmpjbpnjbaa.Cod
open Go.RowKit Codec
set_option maxRecDepth 100000
def Laid (w : World) (base g : Nat) (xs : List UInt8) (e : Ending) (w' : World) : Prop := e = .returned (.tuple #[]) ∧ Wr w' base g xs ∧ Below base w w'
def EndsBelow (v : Value) (w : World) (e : Ending) (w' : World) : Prop := e = .returned v ∧ Below w.heap.size w w'
set_option maxHeartbeats 400000 in
theorem lay_some (w : World) (base g B m c : Nat) (A : Option Addr) (xs ys : List UInt8) (hw : Wr w base g xs) (hr : Byts w B A m ys) (hn : xs.length + m ≤ 1000000000) (hB : base ≤ w.heap.size) :
    Calls Try.prog 94 #[.pointer (some ⟨g, 0, none⟩), .slice A m c] w (Laid w base g (xs ++ ys)) := by
  obtain ⟨A0, n, c0, hg, hown, hb⟩ := hw
  have hc := cell_at hg 0
  have hlen := Lib.hid hown.len
  have HG := Lib.hid hg
  have HO := Lib.hid hown
  have HR := Lib.hid hr
  have hn2 : n + m ≤ 1000000000 := by have := hown.len; omega
  clear hg hown hr hn
  go_enter Try.func94, Try.ntmps94
  go_wp2_with (at_builtin; (refine wpList_app _ rfl (.tmp 10) (.tmp 11) rfl base _ n xs rfl HO.out B A m c ys rfl HR.out hn2 hB ?_); intro A1 c1 w1 hown1 hg1; have hst := Wr.stored HG.out HO.out hb hB hown1 hg1; have HS := Lib.hid hst; have hc1 := cell_at hst.1 0; have hf1 := free_at hst.1 0; clear hst hown1 hg1)
  go_end0
  exact ⟨rfl, HS.out.2.1, HS.out.2.2⟩
set_option maxHeartbeats 400000 in
theorem lay_none (w : World) (v : Value) : Calls Try.prog 94 #[.pointer none, v] w fun e w' => e = .returned (.tuple #[]) ∧ w = w' := by
  go_enter Try.func94, Try.ntmps94
  go_wp2
  go_end0
  exact ⟨rfl, rfl⟩
theorem Below.weaken {B B' : Nat} {w w' : World} (h : Below B w w') (hB : B' ≤ B) : Below B' w w' := h.mono hB
theorem Wr.alloc {w : World} {base g : Nat} {xs : List UInt8} (h : Wr w base g xs) (o : Obj) : Wr (w.alloc o) base g xs := by
  obtain ⟨A, n, c, hg, hown, hb⟩ := h
  exact ⟨A, n, c, (Below.heap_alloc w o g (lt_of_heap hg)).trans hg, hown.alloc o, hb⟩
theorem byt_new (w : World) (x : UInt8) (fr : Nat × Nat) : Byts (w.alloc (.cells #[byt x] 5 fr)) (w.heap.size + 1) (some ⟨w.heap.size, 0, none⟩) 1 [x] :=
  ⟨rfl, fun _ => ⟨w.heap.size, 0, rfl, by omega, fun j hj => by
    obtain rfl : j = 0 := by omega
    rw [World.cell?_alloc_mark]
    rfl⟩⟩
theorem byte_of (N k : Nat) : (N : Int) / 2 ^ (8 * k) % 256 = ((UInt8.ofNat (N / 256 ^ k % 256)).toNat : Int) := by
  have h : (256 : Nat) ^ k = 2 ^ (8 * k) := by rw [show (256 : Nat) = 2 ^ 8 from rfl, ← Nat.pow_mul]
  rw [h]
  generalize hq : N / 2 ^ (8 * k) = q
  have h2 : (N : Int) / 2 ^ (8 * k) = (q : Int) := by rw [← hq]; simp
  rw [h2]
  simp
theorem number_lay (w : World) (base g N k : Nat) (xs : List UInt8) (hw : Wr w base g (xs ++ le k N)) (hn : xs.length + k ≤ 900000008) (hB : base ≤ w.heap.size) :
    Calls Try.prog 94 #[.pointer (some ⟨g, 0, none⟩), .slice (some ⟨w.heap.size, 0, none⟩) 1 1] (w.alloc (.cells #[.int .u8 ((N : Int) / 2 ^ (8 * k) % 256)] 5))
      (Laid (w.alloc (.cells #[.int .u8 ((N : Int) / 2 ^ (8 * k) % 256)] 5)) base g (xs ++ le (k + 1) N)) := by
  rw [byte_of, le_snoc, ← List.append_assoc]
  exact lay_some _ base g (w.heap.size + 1) 1 1 _ _ _ (hw.alloc _) (byt_new w (UInt8.ofNat (N / 256 ^ k % 256)) (0, 0)) (by rw [List.length_append, le_length]; omega) (by simp; omega)
set_option maxHeartbeats 400000 in
theorem number_some (w : World) (base g N wide : Nat) (xs : List UInt8) (hw : Wr w base g xs) (hn : xs.length ≤ 900000000) (hB : base ≤ w.heap.size) (hwide : wide ≤ 8) :
    Calls Try.prog 81 #[.pointer (some ⟨g, 0, none⟩), .int .u64 N, .int .i64 wide] w (Laid w base g (xs ++ le wide N)) := by
  go_enter Try.func81, Try.ntmps81
  go_wp2
  go_loopw [8] (fun i wr => ∃ k : Nat, k ≤ wide ∧ i = .int .i64 k ∧ Wr wr base g (xs ++ le k N) ∧ Below base w wr) (fun i _ => wide - (intOf i).toNat)
  case atStart => exact ⟨0, Nat.zero_le _, rfl, by simpa [le] using hw, Below.refl _ _⟩
  case round =>
    obtain ⟨k, hk, rfl, hW, hbel⟩ := hrel
    have HW := Lib.hid hW
    clear hW
    by_cases hlt : k < wide
    · have HL := Lib.hid (number_lay wr base g N k xs HW.out (by omega) (by have := hbel.size; omega))
      go_wp2_with fail
      refine HL.out.mono ?_
      rintro e w1 ⟨rfl, hW1, hb1⟩
      go_wp2_with fail
      go_roundw
      case rel => exact ⟨k + 1, by omega, by go_num, hW1, (hbel.alloc (by have := hbel.size; omega) _).trans hb1⟩
      case measure => simp [intOf]; omega
    · obtain rfl : k = wide := by omega
      go_wp2
      go_end0
      exact ⟨rfl, HW.out, hbel⟩
set_option maxHeartbeats 400000 in
theorem number_none (w : World) (N wide : Nat) (hwide : wide ≤ 8) :
    Calls Try.prog 81 #[.pointer none, .int .u64 N, .int .i64 wide] w (EndsBelow (.tuple #[]) w) := by
  go_enter Try.func81, Try.ntmps81
  go_wp2
  go_loopw [8] (fun i wr => ∃ k : Nat, k ≤ wide ∧ i = .int .i64 k ∧ Below w.heap.size w wr) (fun i _ => wide - (intOf i).toNat)
  case atStart => exact ⟨0, Nat.zero_le _, rfl, Below.refl _ _⟩
  case round =>
    obtain ⟨k, hk, rfl, hbel⟩ := hrel
    by_cases hlt : k < wide
    · go_wp2_with fail
      refine (lay_none _ _).mono ?_
      rintro e w1 ⟨rfl, rfl⟩
      go_wp2_with fail
      go_roundw
      case rel => exact ⟨k + 1, by omega, by go_num, hbel.alloc hbel.size _⟩
      case measure => simp [intOf]; omega
    · obtain rfl : k = wide := by omega
      go_wp2
      go_end0
      exact ⟨rfl, hbel⟩
theorem number_int (w : World) (base g : Nat) (n : Int) (xs : List UInt8) (hw : Wr w base g xs) (hn : xs.length ≤ 900000000) (hB : base ≤ w.heap.size) :
    Calls Try.prog 81 #[.pointer (some ⟨g, 0, none⟩), .int .u64 (n % 18446744073709551616), .int .i64 8] w (Laid w base g (xs ++ encNum n)) := by
  have h := number_some w base g (n % 18446744073709551616).toNat 8 xs hw hn hB (Nat.le_refl _)
  rw [show (((n % 18446744073709551616).toNat : Nat) : Int) = n % 18446744073709551616 by omega] at h
  exact h
set_option maxHeartbeats 400000 in
theorem num_some (w : World) (base g b : Nat) (n : Int) (xs : List UInt8) (hw : Wr w base g xs) (hn : xs.length ≤ 900000000) (hB : base ≤ w.heap.size) (hc : w.cell? ⟨b, 0, none⟩ = some (.int .i64 n)) :
    Calls Try.prog 71 #[.pointer (some ⟨g, 0, none⟩), .slice (some ⟨b, 0, none⟩) 1 1] w (Laid w base g (xs ++ encNum n)) := by
  have HN := Lib.hid (number_int w base g n xs hw hn hB)
  have HW := Lib.hid hw
  clear hw
  go_enter Try.func71, Try.ntmps71
  go_wp2
  go_loopw [8] (fun i wr => (i = .int .i64 0 ∧ w = wr) ∨ (i = .int .i64 1 ∧ Wr wr base g (xs ++ encNum n) ∧ Below base w wr)) (fun i _ => 1 - (intOf i).toNat)
  case atStart => exact .inl ⟨rfl, rfl⟩
  case round =>
    rcases hrel with ⟨rfl, rfl⟩ | ⟨rfl, hW, hbel⟩
    · go_wp2_with fail
      refine HN.out.mono ?_
      rintro e w1 ⟨rfl, hW1, hb1⟩
      go_wp2_with fail
      go_roundw
      case rel => exact .inr ⟨rfl, hW1, hb1⟩
      case measure => simp [intOf]
    · go_wp2
      go_end0
      exact ⟨rfl, hW, hbel⟩
theorem number_small (w : World) (base g : Nat) (n x : Int) (xs : List UInt8) (hw : Wr w base g xs) (hn : xs.length ≤ 900000000) (hB : base ≤ w.heap.size) (hx : (clip n : Int) = x) :
    Calls Try.prog 81 #[.pointer (some ⟨g, 0, none⟩), .int .u64 x, .int .i64 2] w (Laid w base g (xs ++ encSmall n)) := by
  subst hx
  exact number_some w base g (clip n) 2 xs hw hn hB (by decide)
set_option maxHeartbeats 1000000 in
theorem small_some (w : World) (base g b : Nat) (n : Int) (xs : List UInt8) (hw : Wr w base g xs) (hn : xs.length ≤ 900000000) (hB : base ≤ w.heap.size) (hc : w.cell? ⟨b, 0, none⟩ = some (.int .i64 n)) :
    Calls Try.prog 70 #[.pointer (some ⟨g, 0, none⟩), .slice (some ⟨b, 0, none⟩) 1 1] w (Laid w base g (xs ++ encSmall n)) := by
  have HW := Lib.hid hw
  clear hw
  rcases (show n < 0 ∨ (0 ≤ n ∧ n ≤ 65535) ∨ 65535 < n by omega) with h | ⟨h, h2⟩ | h
  all_goals
    first
      | (have HN := Lib.hid (number_small w base g n 0 xs HW.out hn hB (by unfold clip; omega)))
      | (have HN := Lib.hid (number_small w base g n n xs HW.out hn hB (by unfold clip; omega)))
      | (have HN := Lib.hid (number_small w base g n 65535 xs HW.out hn hB (by unfold clip; omega)))
    go_enter Try.func70, Try.ntmps70
    go_wp2
    go_loopw [8] (fun i wr => (i = .int .i64 0 ∧ w = wr) ∨ (i = .int .i64 1 ∧ Wr wr base g (xs ++ encSmall n) ∧ Below base w wr)) (fun i _ => 1 - (intOf i).toNat)
    case atStart => exact .inl ⟨rfl, rfl⟩
    case round =>
      rcases hrel with ⟨rfl, rfl⟩ | ⟨rfl, hW, hbel⟩
      · go_wp2_with fail
        refine HN.out.mono ?_
        rintro e w1 ⟨rfl, hW1, hb1⟩
        go_wp2_with fail
        go_roundw
        case rel => exact .inr ⟨rfl, hW1, hb1⟩
        case measure => simp [intOf]
      · go_wp2
        go_end0
        exact ⟨rfl, hW, hbel⟩
end Go.Proofs.Ytgjdgmpjbpnjbaa.Cod
/-
  What the program's Writer does with texts; what it tells. Conditions: the Writer's block is known; the sizes are named.
-/
namespace Go.Proofs.Ytgjdgmpjbpnjbaa.Cod
open Go.RowKit Codec
set_option maxRecDepth 100000
def bytesOf (s : ByteArray) : List UInt8 := s.data.toList
theorem bytesOf_length (s : ByteArray) : (bytesOf s).length = s.size := Array.length_toList
theorem byts_string (w : World) (s : ByteArray) (cap : Nat) :
    Byts (w.drew.alloc (.cells (bytesRow s cap) 5 ((bytesRow s cap).size, (bytesRow s cap).size + 1))) (w.heap.size + 1) (some ⟨w.heap.size, 0, none⟩) s.size (bytesOf s) :=
  ⟨bytesOf_length s, fun _ => ⟨w.heap.size, 0, rfl, by omega, fun j hj => by
    rw [show w.heap.size = w.drew.heap.size from rfl, World.cell?_alloc_mark]
    simp [bytesRow, bytesOf, byt, Array.getElem?_append, hj]⟩⟩
theorem Wr.drew {w : World} {base g : Nat} {xs : List UInt8} (h : Wr w base g xs) : Wr w.drew base g xs := h
theorem text_small (w : World) (base g : Nat) (s : ByteArray) (xs : List UInt8) (hw : Wr w base g xs) (hn : xs.length ≤ 800000000) (hB : base ≤ w.heap.size) :
    Calls Try.prog 70 #[.pointer (some ⟨g, 0, none⟩), .slice (some ⟨w.heap.size, 0, none⟩) 1 1] (w.alloc (.cells #[.int .i64 s.size] 3))
      (Laid (w.alloc (.cells #[.int .i64 s.size] 3)) base g (xs ++ encSmall s.size)) :=
  small_some _ base g w.heap.size s.size xs (hw.alloc _) (by omega) (by simp; omega) (by rw [World.cell?_alloc_mark]; rfl)
theorem text_lay (w w1 : World) (base g : Nat) (s : ByteArray) (xs : List UInt8) (hw : Wr w1 base g (xs ++ encSmall s.size)) (hn : xs.length ≤ 800000000) (hs : s.size ≤ 65535) (hB : base ≤ w.heap.size) (hb : Below base w w1) (cap : Nat) :
    Calls Try.prog 94 #[.pointer (some ⟨g, 0, none⟩), .slice (some ⟨w1.heap.size, 0, none⟩) s.size cap] (w1.alloc (.cells (bytesRow s cap) 5 ((bytesRow s cap).size, (bytesRow s cap).size + 1))).drew
      (Laid w base g (xs ++ encText (bytesOf s))) := by
  have hz := hb.size
  have e : encText (bytesOf s) = encSmall s.size ++ bytesOf s := by
    unfold encText encSmall clip
    rw [bytesOf_length, Nat.min_eq_left hs, show (min (max (s.size : Int) 0) 65535).toNat = s.size by omega, List.take_of_length_le (by rw [bytesOf_length]; omega)]
  rw [e, ← List.append_assoc]
  refine (lay_some _ base g (w1.heap.size + 1) s.size cap _ _ _ (hw.drew.alloc _) (byts_string w1 s cap) (by rw [List.length_append, encSmall_length]; omega) (by simp; omega)).mono ?_
  rintro e w2 ⟨he, h1, h2⟩
  exact ⟨he, h1, (hb.drew.alloc (w := w1.drew) (by simp; omega) _).trans h2⟩
/-! ### Nobody's Writer -/
set_option maxHeartbeats 400000 in
theorem num_none (w : World) (b : Nat) (n : Int) (hc : w.cell? ⟨b, 0, none⟩ = some (.int .i64 n)) :
    Calls Try.prog 71 #[.pointer none, .slice (some ⟨b, 0, none⟩) 1 1] w (EndsBelow (.tuple #[]) w) := by
  have HN := Lib.hid (number_none w (n % 18446744073709551616).toNat 8 (Nat.le_refl _))
  rw [show (((n % 18446744073709551616).toNat : Nat) : Int) = n % 18446744073709551616 by omega] at HN
  go_enter Try.func71, Try.ntmps71
  go_wp2
  go_loopw [8] (fun i wr => (i = .int .i64 0 ∧ w = wr) ∨ (i = .int .i64 1 ∧ Below w.heap.size w wr)) (fun i _ => 1 - (intOf i).toNat)
  case atStart => exact .inl ⟨rfl, rfl⟩
  case round =>
    rcases hrel with ⟨rfl, rfl⟩ | ⟨rfl, hbel⟩
    · go_wp2_with fail
      refine HN.out.mono ?_
      rintro e w1 ⟨rfl, hb1⟩
      go_wp2_with fail
      go_roundw
      case rel => exact .inr ⟨rfl, hb1⟩
      case measure => simp [intOf]
    · go_wp2
      go_end0
      exact ⟨rfl, hbel⟩
set_option maxHeartbeats 400000 in
theorem small_none (w : World) (b n : Nat) (hn : n ≤ 65535) (hc : w.cell? ⟨b, 0, none⟩ = some (.int .i64 n)) :
    Calls Try.prog 70 #[.pointer none, .slice (some ⟨b, 0, none⟩) 1 1] w (EndsBelow (.tuple #[]) w) := by
  have HN := Lib.hid (number_none w n 2 (by decide))
  go_enter Try.func70, Try.ntmps70
  go_wp2
  go_loopw [8] (fun i wr => (i = .int .i64 0 ∧ w = wr) ∨ (i = .int .i64 1 ∧ Below w.heap.size w wr)) (fun i _ => 1 - (intOf i).toNat)
  case atStart => exact .inl ⟨rfl, rfl⟩
  case round =>
    rcases hrel with ⟨rfl, rfl⟩ | ⟨rfl, hbel⟩
    · go_wp2_with fail
      refine HN.out.mono ?_
      rintro e w1 ⟨rfl, hb1⟩
      go_wp2_with fail
      go_roundw
      case rel => exact .inr ⟨rfl, hb1⟩
      case measure => simp [intOf]
    · go_wp2
      go_end0
      exact ⟨rfl, hbel⟩
/-! ### What a Writer tells -/
def Cloned (w : World) (n : Nat) (xs : List UInt8) (e : Ending) (w' : World) : Prop := ∃ A c, e = .returned (.slice A n c) ∧ Owns w' w.heap.size (.slice A n c) n xs ∧ Below w.heap.size w w'
set_option maxHeartbeats 400000 in
theorem clone_any (w : World) (B m c : Nat) (A : Option Addr) (ys : List UInt8) (hr : Byts w B A m ys) (hB : B ≤ w.heap.size) (hn : m ≤ 1000000000) :
    Calls Try.prog 31 #[.slice A m c] w (Cloned w m ys) := by
  have HR := Lib.hid hr
  rcases A with _ | ad
  · have hm : m = 0 := by
      rcases Nat.eq_zero_or_pos m with h0 | h0
      · exact h0
      · obtain ⟨b, off, h, _⟩ := hr.at_ h0
        cases h
    subst hm
    have hy : ys = [] := List.eq_nil_of_length_eq_zero hr.len
    subst hy
    clear hr
    have hq := fun w (l c : Nat) => Lib.run_eql_slice_nil (P := Try.prog) w 35 5 none l c 0 0 Try.underlying35
    go_enter Try.func31, Try.ntmps31
    go_wp2
    go_ret
    exact ⟨none, 0, rfl, Owns.nil, Below.refl _ _⟩
  · clear hr
    have hq := fun w (l c : Nat) => Lib.run_eql_slice_nil (P := Try.prog) w 35 5 (some ad) l c 0 0 Try.underlying35
    go_enter Try.func31, Try.ntmps31
    go_wp2_with (at_builtin; (refine wpList_app _ rfl (.tmp 5) (.tmp 6) rfl w.heap.size (.slice (some ⟨w.heap.size, 0, none⟩) 0 0) 0 [] rfl (World.ownsRow_made w #[] 0 (Nat.le_refl _) (Nat.zero_le _) rfl) B (some ad) m c ys rfl (HR.out.alloc hB _) (by omega) (by simp) ?_); intro A1 c1 w1 hown1 hg1; have HO := Lib.hid hown1; have HG := Lib.hid hg1; clear hown1 hg1)
    go_ret
    have h1 := HO.out
    have hg := HG.out
    rw [Nat.zero_add, List.nil_append] at h1
    exact ⟨A1, c1, rfl, h1, ((Below.refl _ _).alloc (Nat.le_refl _) _).grown hg (by simp) (fun k hk => by simp [Value.ownBlock] at hk; omega)⟩
/-- What a Writer tells: a row of its own. -/
theorem bytes_some (w : World) (base g : Nat) (xs : List UInt8) (hw : Wr w base g xs) (hn : xs.length ≤ 1000000000) :
    Calls Try.prog 72 #[.pointer (some ⟨g, 0, none⟩)] w (Cloned w xs.length xs) := by
  obtain ⟨A, n, c, hg, hown, hb⟩ := hw
  have hc := cell_at hg 0
  have hl := hown.len
  subst hl
  have HN := Lib.hid (fun w' (hb : Below w.heap.size w w') => clone_any w' w.heap.size xs.length c A xs (hown.byts.below hb) hb.size hn)
  have HC := Lib.hid (HN.out w (Below.refl _ _))
  clear hg hown HN
  go_enter Try.func72, Try.ntmps72
  go_wp2_with fail
  refine HC.out.mono ?_
  rintro e w1 ⟨A1, c1, rfl, ho, hbel⟩
  have HO := Lib.hid ho
  have HB := Lib.hid hbel
  clear ho hbel
  go_wp2_with fail
  go_ret
  exact ⟨A1, c1, rfl, HO.out, HB.out⟩
theorem bytes_none (w : World) : Calls Try.prog 72 #[.pointer none] w fun e w' => e = .returned (.slice none 0 0) ∧ w = w' := by
  go_enter Try.func72, Try.ntmps72
  go_wp2
  go_ret
  exact ⟨rfl, rfl⟩
/-- Bytes as a text. -/
theorem run_string_of (w : World) (B n c : Nat) (A : Option Addr) (ys : List UInt8) (hr : Byts w B A n ys) : (convert 35 9 (.slice A n c)).run Try.prog w = .ok (.string ⟨ys.toArray⟩) w := by
  rcases Nat.eq_zero_or_pos n with h0 | h0
  · subst h0
    have hy : ys = [] := List.eq_nil_of_length_eq_zero hr.len
    subst hy
    rcases A with _ | ad
    · exact run_convert_bytes_nil w 35 5 Try.underlying35 Try.underlying5 0 c 9 Try.underlying9
    · exact run_convert_bytes_back w 35 9 5 ad c [] Try.underlying35 Try.underlying5 Try.underlying9 (fun j hj => by simp at hj)
  · obtain ⟨b, off, rfl, _, hc⟩ := hr.at_ h0
    have hl := hr.len
    subst hl
    exact run_convert_bytes_back w 35 9 5 ⟨b, off, none⟩ c ys Try.underlying35 Try.underlying5 Try.underlying9 (fun j hj => by
      rw [plain_add, hc j hj]
      simp [byt, List.getD_eq_getElem?_getD, hj])
end Go.Proofs.Ytgjdgmpjbpnjbaa.Cod
/-
  What the program's Writer does with several numbers at once; what it leaves aside: blocks that are neither the Writer's nor bytes. Conditions: the Writer's block is known; the sizes are named.
-/
namespace Go.Proofs.Ytgjdgmpjbpnjbaa.Cod
open Go.RowKit Codec
set_option maxRecDepth 100000
set_option maxRecDepth 100000
/-- Blocks of other cells than bytes, but for g, are as they were. -/
def Aside (g : Nat) (w w' : World) : Prop := ∀ (k : Nat) (cs : Array Value) (T : TypeId), T ≠ 5 → k ≠ g → w.heap[k]? = some (.cells cs T (0, 0)) → w'.heap[k]? = some (.cells cs T (0, 0))
theorem Aside.refl (g : Nat) (w : World) : Aside g w w := fun _ _ _ _ _ h => h
theorem Aside.trans {g : Nat} {a b c : World} (h : Aside g a b) (k : Aside g b c) : Aside g a c := fun i cs T hT hi e => k i cs T hT hi (h i cs T hT hi e)
theorem Aside.alloc {g : Nat} {a b : World} (h : Aside g a b) (o : Obj) : Aside g a (b.alloc o) := fun i cs T hT hi e => by
  have h1 := h i cs T hT hi e
  exact (Below.heap_alloc b o i (lt_of_heap h1)).trans h1
def LaidA (w : World) (base g : Nat) (xs : List UInt8) (e : Ending) (w' : World) : Prop := e = .returned (.tuple #[]) ∧ Wr w' base g xs ∧ Below base w w' ∧ Aside g w w'
theorem aside_stored {w w1 : World} {base g n : Nat} {v u : Value} {xs : List UInt8} (hown : Owns w base v n xs) (hw : w.grownBy w1 v.ownBlock) : Aside g w (w1.setCell ⟨g, 0, none⟩ u) := fun k _ _ hT hk e =>
  (Below.heap_setCell w1 ⟨g, 0, none⟩ u k hk).trans ((hw.block k (lt_of_heap e) (fun he => hown.far e hT he.symm)).trans e)
set_option maxHeartbeats 400000 in
theorem lay_aside (w : World) (base g B m c : Nat) (A : Option Addr) (xs ys : List UInt8) (hw : Wr w base g xs) (hr : Byts w B A m ys) (hn : xs.length + m ≤ 1000000000) (hB : base ≤ w.heap.size) :
    Calls Try.prog 94 #[.pointer (some ⟨g, 0, none⟩), .slice A m c] w (LaidA w base g (xs ++ ys)) := by
  obtain ⟨A0, n, c0, hg, hown, hb⟩ := hw
  have hc := cell_at hg 0
  have HG := Lib.hid hg
  have HO := Lib.hid hown
  have HR := Lib.hid hr
  have hn2 : n + m ≤ 1000000000 := by have := hown.len; omega
  clear hg hown hr hn
  go_enter Try.func94, Try.ntmps94
  go_wp2_with (at_builtin; (refine wpList_app _ rfl (.tmp 10) (.tmp 11) rfl base _ n xs rfl HO.out B A m c ys rfl HR.out hn2 hB ?_); intro A1 c1 w1 hown1 hg1; have hst := Wr.stored HG.out HO.out hb hB hown1 hg1; have HS := Lib.hid hst; have HA : Hid (Aside g w (w1.setCell ⟨g, 0, none⟩ (.slice A1 (n + m) c1))) := aside_stored HO.out hg1; have hc1 := cell_at hst.1 0; have hf1 := free_at hst.1 0; clear hst hown1 hg1)
  go_end0
  exact ⟨rfl, HS.out.2.1, HS.out.2.2, HA.out⟩
theorem number_lay_a (w : World) (base g N k : Nat) (xs : List UInt8) (hw : Wr w base g (xs ++ le k N)) (hn : xs.length + k ≤ 900000008) (hB : base ≤ w.heap.size) :
    Calls Try.prog 94 #[.pointer (some ⟨g, 0, none⟩), .slice (some ⟨w.heap.size, 0, none⟩) 1 1] (w.alloc (.cells #[.int .u8 ((N : Int) / 2 ^ (8 * k) % 256)] 5))
      (LaidA (w.alloc (.cells #[.int .u8 ((N : Int) / 2 ^ (8 * k) % 256)] 5)) base g (xs ++ le (k + 1) N)) := by
  rw [byte_of, le_snoc, ← List.append_assoc]
  exact lay_aside _ base g (w.heap.size + 1) 1 1 _ _ _ (hw.alloc _) (byt_new w (UInt8.ofNat (N / 256 ^ k % 256)) (0, 0)) (by rw [List.length_append, le_length]; omega) (by simp; omega)
set_option maxHeartbeats 400000 in
theorem number_aside (w : World) (base g N wide : Nat) (xs : List UInt8) (hw : Wr w base g xs) (hn : xs.length ≤ 900000000) (hB : base ≤ w.heap.size) (hwide : wide ≤ 8) :
    Calls Try.prog 81 #[.pointer (some ⟨g, 0, none⟩), .int .u64 N, .int .i64 wide] w (LaidA w base g (xs ++ le wide N)) := by
  go_enter Try.func81, Try.ntmps81
  go_wp2
  go_loopw [8] (fun i wr => ∃ k : Nat, k ≤ wide ∧ i = .int .i64 k ∧ Wr wr base g (xs ++ le k N) ∧ Below base w wr ∧ Aside g w wr) (fun i _ => wide - (intOf i).toNat)
  case atStart => exact ⟨0, Nat.zero_le _, rfl, by simpa [le] using hw, Below.refl _ _, Aside.refl _ _⟩
  case round =>
    obtain ⟨k, hk, rfl, hW, hbel, has⟩ := hrel
    have HW := Lib.hid hW
    have HA := Lib.hid has
    clear hW has
    by_cases hlt : k < wide
    · have HL := Lib.hid (number_lay_a wr base g N k xs HW.out (by omega) (by have := hbel.size; omega))
      go_wp2_with fail
      refine HL.out.mono ?_
      rintro e w1 ⟨rfl, hW1, hb1, ha1⟩
      go_wp2_with fail
      go_roundw
      case rel => exact ⟨k + 1, by omega, by go_num, hW1, (hbel.alloc (by have := hbel.size; omega) _).trans hb1, (HA.out.alloc _).trans ha1⟩
      case measure => simp [intOf]; omega
    · obtain rfl : k = wide := by omega
      go_wp2
      go_end0
      exact ⟨rfl, HW.out, hbel, HA.out⟩
theorem number_int_a (w : World) (base g : Nat) (n : Int) (xs : List UInt8) (hw : Wr w base g xs) (hn : xs.length ≤ 900000000) (hB : base ≤ w.heap.size) :
    Calls Try.prog 81 #[.pointer (some ⟨g, 0, none⟩), .int .u64 (n % 18446744073709551616), .int .i64 8] w (LaidA w base g (xs ++ encNum n)) := by
  have h := number_aside w base g (n % 18446744073709551616).toNat 8 xs hw hn hB (Nat.le_refl _)
  rw [show (((n % 18446744073709551616).toNat : Nat) : Int) = n % 18446744073709551616 by omega] at h
  exact h
theorem number_small_a (w : World) (base g : Nat) (n x : Int) (xs : List UInt8) (hw : Wr w base g xs) (hn : xs.length ≤ 900000000) (hB : base ≤ w.heap.size) (hx : (clip n : Int) = x) :
    Calls Try.prog 81 #[.pointer (some ⟨g, 0, none⟩), .int .u64 x, .int .i64 2] w (LaidA w base g (xs ++ encSmall n)) := by
  subst hx
  exact number_aside w base g (clip n) 2 xs hw hn hB (by decide)
/-- Several numbers, laid. -/
def encAll (f : Int → List UInt8) (l : List Int) : List UInt8 := l.flatMap f
theorem encAll_step (f : Int → List UInt8) (xs : List UInt8) (l : List Int) (k : Nat) (h : k < l.length) : xs ++ encAll f (l.take (k + 1)) = xs ++ encAll f (l.take k) ++ f (l.getD k 0) := by
  rw [List.take_succ_eq_append_getElem h, encAll, List.flatMap_append]
  simp [encAll, List.getD_eq_getElem?_getD, h]
theorem encAll_length (f : Int → List UInt8) (hf : ∀ n, (f n).length ≤ 8) : ∀ l, (encAll f l).length ≤ 8 * l.length
  | [] => by simp [encAll]
  | a :: r => by
    have h1 := hf a
    have h2 := encAll_length f hf r
    simp only [encAll, List.flatMap_cons, List.length_append, List.length_cons] at *
    omega
/-- A block of ints. -/
def ints (l : List Int) : Array Value := (l.map (Value.int .i64)).toArray
theorem ints_get (l : List Int) (k : Nat) (h : k < l.length) : (ints l)[k]? = some (.int .i64 (l.getD k 0)) := by simp [ints, List.getD_eq_getElem?_getD, h]
set_option maxHeartbeats 1000000 in
theorem num_many (w : World) (base g b : Nat) (l : List Int) (xs : List UInt8) (hw : Wr w base g xs) (hn : xs.length ≤ 800000000) (hl : l.length ≤ 1000000) (hB : base ≤ w.heap.size) (hgb : b ≠ g) (hc : w.heap[b]? = some (.cells (ints l) 2 (0, 0))) (n : Nat) (hln : l.length = n) :
    Calls Try.prog 71 #[.pointer (some ⟨g, 0, none⟩), .slice (some ⟨b, 0, none⟩) n n] w (LaidA w base g (xs ++ encAll encNum l)) := by
  have HC := Lib.hid hc
  have HW0 := Lib.hid hw
  have HLN := Lib.hid hln
  clear hc hw hln
  have hn0 : n ≤ 1000000 := by have := HLN.out; omega
  go_enter Try.func71, Try.ntmps71
  go_wp2
  go_loopw [8] (fun i wr => ∃ k : Nat, k ≤ n ∧ i = .int .i64 k ∧ Wr wr base g (xs ++ encAll encNum (l.take k)) ∧ Below base w wr ∧ Aside g w wr) (fun i _ => n - (intOf i).toNat)
  case atStart => exact ⟨0, Nat.zero_le _, rfl, by simpa [encAll] using HW0.out, Below.refl _ _, Aside.refl _ _⟩
  case round =>
    obtain ⟨k, hk, rfl, hW, hbel, has⟩ := hrel
    have HW := Lib.hid hW
    have HA := Lib.hid has
    clear hW has
    by_cases hlt : k < n
    · have hcb := HA.out b _ 2 (by decide) hgb HC.out
      have hcell : wr.cell? ⟨b, k, none⟩ = some (.int .i64 (l.getD k 0)) := (cell_at hcb k).trans (ints_get l k (by have := HLN.out; omega))
      have HN := Lib.hid (number_int_a wr base g (l.getD k 0) (xs ++ encAll encNum (l.take k)) HW.out (by have := encAll_length encNum (fun n => by rw [encNum_length]; exact Nat.le_refl _) (l.take k); rw [List.length_append]; rw [List.length_take] at this; omega) (by have := hbel.size; omega))
      have HX := Lib.hid (encAll_step encNum xs l k (by have := HLN.out; omega))
      clear hcb
      generalize l.getD k 0 = x at *
      go_wp2_with fail
      refine HN.out.mono ?_
      rintro e w1 ⟨rfl, hW1, hb1, ha1⟩
      go_wp2_with fail
      go_roundw
      case rel => exact ⟨k + 1, by omega, by go_num, by rw [HX.out]; exact hW1, hbel.trans hb1, HA.out.trans ha1⟩
      case measure => simp [intOf]; omega
    · obtain rfl : k = n := by omega
      go_wp2
      go_end0
      refine ⟨rfl, ?_, hbel, HA.out⟩
      have h := HW.out
      rwa [List.take_of_length_le (by have := HLN.out; omega)] at h
set_option maxHeartbeats 1000000 in
theorem small_many (w : World) (base g b : Nat) (l : List Int) (xs : List UInt8) (hw : Wr w base g xs) (hn : xs.length ≤ 800000000) (hl : l.length ≤ 1000000) (hB : base ≤ w.heap.size) (hgb : b ≠ g) (hc : w.heap[b]? = some (.cells (ints l) 3 (0, 0))) (n : Nat) (hln : l.length = n) :
    Calls Try.prog 70 #[.pointer (some ⟨g, 0, none⟩), .slice (some ⟨b, 0, none⟩) n n] w (LaidA w base g (xs ++ encAll encSmall l)) := by
  have HC := Lib.hid hc
  have HW0 := Lib.hid hw
  have HLN := Lib.hid hln
  clear hc hw hln
  have hn0 : n ≤ 1000000 := by have := HLN.out; omega
  go_enter Try.func70, Try.ntmps70
  go_wp2
  go_loopw [8] (fun i wr => ∃ k : Nat, k ≤ n ∧ i = .int .i64 k ∧ Wr wr base g (xs ++ encAll encSmall (l.take k)) ∧ Below base w wr ∧ Aside g w wr) (fun i _ => n - (intOf i).toNat)
  case atStart => exact ⟨0, Nat.zero_le _, rfl, by simpa [encAll] using HW0.out, Below.refl _ _, Aside.refl _ _⟩
  case round =>
    obtain ⟨k, hk, rfl, hW, hbel, has⟩ := hrel
    have HW := Lib.hid hW
    have HA := Lib.hid has
    clear hW has
    by_cases hlt : k < n
    · have hcb := HA.out b _ 3 (by decide) hgb HC.out
      have hcell : wr.cell? ⟨b, k, none⟩ = some (.int .i64 (l.getD k 0)) := (cell_at hcb k).trans (ints_get l k (by have := HLN.out; omega))
      have HX := Lib.hid (encAll_step encSmall xs l k (by have := HLN.out; omega))
      have hxl : (xs ++ encAll encSmall (l.take k)).length ≤ 900000000 := by have := encAll_length encSmall (fun n => by rw [encSmall_length]; omega) (l.take k); rw [List.length_append]; rw [List.length_take] at this; omega
      have hbs : base ≤ wr.heap.size := by have := hbel.size; omega
      clear hcb
      generalize l.getD k 0 = x at *
      have HXL := Lib.hid hxl
      clear hxl
      rcases (show x < 0 ∨ (0 ≤ x ∧ x ≤ 65535) ∨ 65535 < x by omega) with h | ⟨h, h2⟩ | h
      all_goals
        first
          | (have HN := Lib.hid (number_small_a wr base g x 0 _ HW.out HXL.out hbs (by unfold clip; omega)))
          | (have HN := Lib.hid (number_small_a wr base g x x _ HW.out HXL.out hbs (by unfold clip; omega)))
          | (have HN := Lib.hid (number_small_a wr base g x 65535 _ HW.out HXL.out hbs (by unfold clip; omega)))
        go_wp2_with fail
        refine HN.out.mono ?_
        rintro e w1 ⟨rfl, hW1, hb1, ha1⟩
        go_wp2_with fail
        go_roundw
        case rel => exact ⟨k + 1, by omega, by go_num, by rw [HX.out]; exact hW1, hbel.trans hb1, HA.out.trans ha1⟩
        case measure => simp [intOf]; omega
    · obtain rfl : k = n := by omega
      go_wp2
      go_end0
      refine ⟨rfl, ?_, hbel, HA.out⟩
      have h := HW.out
      rwa [List.take_of_length_le (by have := HLN.out; omega)] at h
end Go.Proofs.Ytgjdgmpjbpnjbaa.Cod
/-
  What the program's Reader does: Refuse, take, number, and what it tells of itself. Conditions: the Reader's block is known.
-/
namespace Go.Proofs.Ytgjdgmpjbpnjbaa.Cod
open Go.RowKit Codec
set_option maxRecDepth 100000
def Turned (T : TypeId) (w : World) (B g : Nat) (v : Value) (s : St) (e : Ending) (w' : World) : Prop := e = .returned v ∧ Rdr T w' B g s ∧ w.grownBy w' (some g)
def Took (T : TypeId) (w : World) (B g : Nat) (xs : List UInt8) (s : St) (e : Ending) (w' : World) : Prop :=
  ∃ A m c, e = .returned (.slice A m c) ∧ Byts w' B A m xs ∧ Rdr T w' B g s ∧ w.grownBy w' (some g)
theorem Rdr.bads {T : TypeId} {w : World} {B g : Nat} (hB : B ≤ g) {A : Option Addr} (h : w.heap[g]? = some (.cells #[.slice A 0 0, .bool true] T (0, 0))) : Rdr T w B g ⟨[], true⟩ :=
  ⟨badOk, hB, A, 0, 0, h, Byts.none_, Nat.le_refl _, Nat.zero_le _, Nat.zero_le _⟩
set_option maxHeartbeats 400000 in
theorem refuse_true (w : World) (B g : Nat) (s : St) (hr : Rdr 133 w B g s) : Calls Try.prog 103 #[.pointer (some ⟨g, 0, none⟩), .bool true] w (Turned 133 w B g (.tuple #[]) ⟨[], true⟩) := by
  obtain ⟨_, hB, A, n, c, hg, _⟩ := hr
  have c0 := cell_at hg 0
  have c1 := cell_at hg 1
  have f0 := free_at hg 0
  have f1 := free_at hg 1
  have HG := Lib.hid hg
  clear hg
  go_enter Try.func103, Try.ntmps103
  go_wp2
  go_end0
  refine ⟨rfl, Rdr.bads hB (A := none) ?_, grown_trans (grown_set w g 0 _) (grown_set _ g 1 _)⟩
  rw [set_at (set_at HG.out 0 _) 1 _]
  rfl
set_option maxHeartbeats 400000 in
theorem refuse_false (w : World) (g : Nat) : Calls Try.prog 103 #[.pointer (some ⟨g, 0, none⟩), .bool false] w fun e w' => e = .returned (.tuple #[]) ∧ w = w' := by
  go_enter Try.func103, Try.ntmps103
  go_wp2
  go_end0
  exact ⟨rfl, rfl⟩
set_option maxHeartbeats 400000 in
theorem refuse_none (w : World) (b : Bool) : Calls Try.prog 103 #[.pointer none, .bool b] w fun e w' => e = .returned (.tuple #[]) ∧ w = w' := by
  go_enter Try.func103, Try.ntmps103
  go_wp2
  go_end0
  exact ⟨rfl, rfl⟩
theorem refuse_any (w : World) (B g : Nat) (s : St) (b : Bool) (hr : Rdr 133 w B g s) : Calls Try.prog 103 #[.pointer (some ⟨g, 0, none⟩), .bool b] w (Turned 133 w B g (.tuple #[]) (refuse b s)) := by
  cases b
  · refine (refuse_false w g).mono ?_
    rintro e w1 ⟨rfl, rfl⟩
    exact ⟨rfl, hr, grown_refl _ _⟩
  · exact refuse_true w B g s hr
theorem size5 (w : World) : (sizeOf (Try.prog.elem 35)).run Try.prog w = .ok 1 w := by kernel_rfl
theorem run_to (w : World) (A : Option Addr) (n c k : Nat) (hk : k ≤ c) : (Instr.slice 35 (.slice A n c) none (some (.int .i64 k)) none).run Try.prog w = .ok (.slice A k c) w := by
  rw [run_slice_h (P := Try.prog) w 35 A n c Try.underlying35 .i64 k (by omega) (by omega), size5]
  simp only [Result.andThen, sliced, Int.toNat_natCast, Nat.zero_mul, Nat.sub_zero]
  congr 2
  split
  · rfl
  · cases A <;> simp [Addr.add]
theorem run_from (w : World) (A : Option Addr) (n c k : Nat) (hk : k ≤ n) :
    (Instr.slice 35 (.slice A n c) (some (.int .i64 k)) none none).run Try.prog w = .ok (.slice (if c = k then A else A.map (·.add k)) (n - k) (c - k)) w := by
  rw [run_slice_l (P := Try.prog) w 35 A n c Try.underlying35 .i64 k (by omega) (by omega), size5]
  simp [Result.andThen, sliced]
theorem tk_long {k : Nat} {s : St} (h : s.ok) (hk : k ≤ s.left.length) : tk k s = s.left.take k ∧ tkS k s = ⟨s.left.drop k, s.bad⟩ := by
  obtain ⟨l, b⟩ := s
  cases b
  · have h0 : short k ⟨l, false⟩ = false := by simpa [short] using hk
    simp [tk, tkS, h0]
  · obtain rfl : l = [] := h rfl
    simp [tk, tkS, short]
set_option maxHeartbeats 400000 in
theorem take_few (w : World) (B g k : Nat) (s : St) (hr : Rdr 133 w B g s) (hk : s.left.length < k) :
    Calls Try.prog 101 #[.pointer (some ⟨g, 0, none⟩), .int .i64 k] w (Took 133 w B g (tk k s) (tkS k s)) := by
  have hsh : short k s = true := by simp [short, hk]
  have h1 := Lib.hid (tk_short hsh)
  have h2 := Lib.hid (tkS_short hsh)
  have HR := Lib.hid (refuse_true w B g s hr)
  obtain ⟨_, hB, A, n, c, hg, hb, _⟩ := hr
  have hn : n < k := by have := hb.len; omega
  have c0 := cell_at hg 0
  have f0 := free_at hg 0
  clear hg hsh hb hk
  go_enter Try.func101, Try.ntmps101
  go_wp2_with fail
  refine HR.out.mono ?_
  rintro e w1 ⟨rfl, hw, hgr⟩
  have HW := Lib.hid hw
  have HG := Lib.hid hgr
  clear hw hgr
  go_wp2_with fail
  go_ret
  rw [h1.out, h2.out]
  exact ⟨none, 0, 0, rfl, Byts.none_, HW.out, HG.out⟩
set_option maxHeartbeats 400000 in
theorem take_long (w : World) (B g k : Nat) (s : St) (hr : Rdr 133 w B g s) (hk : k ≤ s.left.length) :
    Calls Try.prog 101 #[.pointer (some ⟨g, 0, none⟩), .int .i64 k] w (Took 133 w B g (tk k s) (tkS k s)) := by
  obtain ⟨hok, hB, A, n, c, hg, hb, hnc, hcm, hnm⟩ := hr
  have h1 := Lib.hid (tk_long hok hk)
  have hl := hb.len
  have hkn : k ≤ n := by omega
  have hkc : k ≤ c := by omega
  have hcm2 : c ≤ 9223372036854775807 := hcm
  have HB := Lib.hid hb
  have HG := Lib.hid hg
  have c0 : w.cell? ⟨g, 0, none⟩ = some (.slice A n c) := cell_at hg 0
  have f0 := free_at hg 0
  have hs1 := fun w => run_to w A n c k hkc
  have hs2 := fun w => run_from w A n c k hkn
  have HA := Lib.hid (HB.out.drop k c hkn hnc)
  generalize (if c = k then A else A.map (·.add k)) = A2 at *
  have hd : decide (n < k) = false := by simpa using hkn
  clear hg hl hb hok hk hcm
  go_enter Try.func101, Try.ntmps101
  go_wp2_with fail
  go_ret
  rw [h1.out.1, h1.out.2]
  refine ⟨A, k, c, rfl, (HB.out.take k hkn).setCell hB _, ⟨?_, hB, A2, n - k, c - k, set_at HG.out 0 _, HA.out.setCell hB _, by omega, ?_, by omega⟩, grown_set w g 0 _⟩
  · rw [← h1.out.2]; exact tkS_ok _ _
  · unfold maxLen; omega
theorem take_any (w : World) (B g k : Nat) (s : St) (hr : Rdr 133 w B g s) :
    Calls Try.prog 101 #[.pointer (some ⟨g, 0, none⟩), .int .i64 k] w (Took 133 w B g (tk k s) (tkS k s)) := by
  by_cases h : s.left.length < k
  · exact take_few w B g k s hr h
  · exact take_long w B g k s hr (by omega)
set_option maxHeartbeats 400000 in
theorem take_none (w : World) (v : Value) : Calls Try.prog 101 #[.pointer none, v] w fun e w' => e = .returned (.slice none 0 0) ∧ w = w' := by
  go_enter Try.func101, Try.ntmps101
  go_wp2_with fail
  refine (refuse_none w true).mono ?_
  rintro e w1 ⟨rfl, rfl⟩
  go_wp2_with fail
  go_ret
  exact ⟨rfl, rfl⟩
theorem number_step (xs : List UInt8) (j : Nat) (h : j < xs.length) : leVal (xs.take (j + 1)) = leVal (xs.take j) + 256 ^ j * (xs.getD j 0).toNat := by
  rw [List.take_succ_eq_append_getElem h, leVal_snoc, List.length_take, Nat.min_eq_left (by omega)]
  simp [List.getD_eq_getElem?_getD, h]
theorem or_step (r x j : Nat) (hr : r < 256 ^ j) (hx : x < 256) (hj : j < 8) :
    bits .or .u64 (r : Int) (IntKind.u64.wrap (IntKind.u64.wrap (x : Int) * 2 ^ (8 * j))) = ((r + 256 ^ j * x : Nat) : Int) := by
  have e : (256 : Nat) ^ j = 2 ^ (8 * j) := by rw [show (256 : Nat) = 2 ^ 8 from rfl, ← Nat.pow_mul]
  have e2 : ((2 : Int) ^ (8 * j)) = ((256 ^ j : Nat) : Int) := by rw [e]; simp
  have h1 : 256 ^ j * x < 18446744073709551616 := by
    have h2 : 256 ^ j ≤ 256 ^ 7 := Nat.pow_le_pow_right (by decide) (by omega)
    have h3 : 256 ^ j * x ≤ 256 ^ 7 * 255 := Nat.mul_le_mul h2 (by omega)
    omega
  have h4 : r < 18446744073709551616 := by
    have h2 : 256 ^ j ≤ 256 ^ 7 := Nat.pow_le_pow_right (by decide) (by omega)
    omega
  have h5 : 256 ^ j * x + r = 256 ^ j * x ||| r := by rw [e] at hr ⊢; exact Nat.two_pow_add_eq_or_of_lt hr x
  rw [e2, IntKind.wrap_u64, IntKind.wrap_u64]
  have h6 : (x : Int) % 18446744073709551616 * ((256 ^ j : Nat) : Int) % 18446744073709551616 = ((256 ^ j * x : Nat) : Int) := by
    rw [show (x : Int) % 18446744073709551616 = (x : Int) by omega, ← Int.natCast_mul, Nat.mul_comm]
    generalize 256 ^ j * x = q at *
    omega
  rw [h6, u64_or_nat _ _ h4 h1, Nat.or_comm, ← h5, Nat.add_comm]
theorem take_le (k : Nat) (s : St) : (tk k s).length ≤ k := by
  unfold tk
  split <;> simp
  omega
set_option maxHeartbeats 400000 in
theorem number_any (w : World) (B g k : Nat) (s : St) (hr : Rdr 133 w B g s) (hk : k ≤ 8) :
    Calls Try.prog 93 #[.pointer (some ⟨g, 0, none⟩), .int .i64 k] w (Turned 133 w B g (.int .u64 (leVal (tk k s))) (tkS k s)) := by
  have HT := Lib.hid (take_any w B g k s hr)
  clear hr
  go_enter Try.func93, Try.ntmps93
  go_wp2_with fail
  refine HT.out.mono ?_
  rintro e w1 ⟨A, m, c, rfl, hb, hw, hgr⟩
  have HB := Lib.hid hb
  have HW := Lib.hid hw
  have HG := Lib.hid hgr
  have hm : m ≤ 8 := by have := take_le k s; have := hb.len; omega
  generalize tk k s = xs at *
  generalize tkS k s = s1 at *
  clear hb hw hgr HT
  go_wp2_with fail
  go_loop [5, 12] (fun r i => ∃ j : Nat, j ≤ m ∧ i = .int .i64 j ∧ r = .int .u64 (leVal (xs.take j))) (fun _ i => m - (intOf i).toNat)
  case atStart => exact ⟨0, Nat.zero_le _, rfl, rfl⟩
  case round =>
    obtain ⟨j, hj, rfl, rfl⟩ := hrel
    by_cases hlt : j < m
    · obtain ⟨b, off, hA, _, hc⟩ := HB.out.at_ (by omega)
      subst hA
      have hcx := hc j hlt
      have HX := Lib.hid (number_step xs j (by rw [HB.out.len]; exact hlt))
      have HR := Lib.hid (leVal_lt (xs.take j))
      have HJ := Lib.hid (show (xs.take j).length = j by rw [List.length_take, HB.out.len]; omega)
      unfold byt at hcx
      clear hc
      generalize leVal (xs.take j) = r at *
      go_wp2
      go_round
      case rel =>
        have hr := HR.out
        rw [HJ.out] at hr
        refine ⟨j + 1, by omega, by go_num, ?_⟩
        rw [HX.out, List.getD_eq_getElem?_getD, or_step r _ j hr (UInt8.toNat_lt _) (by omega)]
      case measure => simp [intOf]; omega
    · obtain rfl : j = m := by omega
      go_wp2
      go_ret
      refine ⟨?_, HW.out, HG.out⟩
      rw [List.take_of_length_le (by rw [HB.out.len]; omega)]
      rfl
end Go.Proofs.Ytgjdgmpjbpnjbaa.Cod
