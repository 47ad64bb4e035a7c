/-
  Texts JLow, in one file. What each proves, and its conditions, stand at its head below.
-/
import Derived.Test.YtdjhlhellkajfaaGreatM4
import Derived.Test.YtdjhlhellkajfaaGreatM25
/-
  What heads a disk can hold, whatever was written, torn and crashed: none of a generation that is greater than those that were written. No program; no condition.
-/
namespace Go.Proofs.YtdjhlhellkajfaaGreat.JourM
open Disk FrameM Codec
set_option maxRecDepth 100000
/-- A half that is a mark's is of a generation of at most G. -/
def HalfLe (G : Nat) (h : List UInt8) : Prop := ∀ m : Mk, m.right = true → m.fits → h = half m → m.gen ≤ G
def SecLe (G : Nat) (x : List UInt8) : Prop := HalfLe G (x.take 32) ∧ HalfLe G (x.drop 32)
def Low (d : Dsk) (G : Nat) : Prop := ∀ i, i < 2 → SecLe G (d.safe i) ∧ ∀ s, d.waits i = some s → SecLe G s
theorem SecLe.mono {G G' : Nat} {x : List UInt8} (h : SecLe G x) (hg : G ≤ G') : SecLe G' x :=
  ⟨fun m h1 h2 h3 => by have := h.1 m h1 h2 h3; omega, fun m h1 h2 h3 => by have := h.2 m h1 h2 h3; omega⟩
theorem Low.mono {G G' : Nat} {d : Dsk} (h : Low d G) (hg : G ≤ G') : Low d G' := fun i hi => ⟨(h i hi).1.mono hg, fun s hs => ((h i hi).2 s hs).mono hg⟩
theorem secLe_put {g G : Nat} (hg : g ≤ G) (hb : g < 9223372036854775808) : SecLe G (put (headM g)) := by
  have hr := headM_right g
  have hf := headM_fits hb
  have key : HalfLe G (half (headM g)) := fun m h1 h2 h3 => by
    have := half_inj hr hf h1 h2 h3
    rw [← this]
    simp [headM]
    omega
  rw [put_right hr]
  refine ⟨?_, ?_⟩
  · rw [List.take_left' (half_length _)]; exact key
  · rw [List.drop_left' (half_length _)]; exact key
theorem secLe_nul (G : Nat) : SecLe G nul64 := by
  have key : HalfLe G (zeros 32) := fun m h1 h2 h3 => by
    have h4 := (getB_put h1 h2).1
    rw [put_right h1, ← h3, ← nul64_eq, getB_nul] at h4
    cases h4
  rw [nul64_eq]
  exact ⟨by rw [List.take_left' (by rfl)]; exact key, by rw [List.drop_left' (by rfl)]; exact key⟩
theorem low_fresh (n : Nat) : Low (fresh n) 0 := fun i _ => ⟨secLe_nul 0, fun s hs => by cases hs⟩
theorem low_same {d d' : Dsk} {G : Nat} (h : Low d G) (hs : d'.safe = d.safe) (hw : d'.waits = d.waits) : Low d' G := fun i hi => by rw [hs, hw]; exact h i hi
theorem low_deed {d : Dsk} {G : Nat} (h : Low d G) : Low d.deed G := low_same h d.deed_parts.2.1 d.deed_parts.2.2
theorem low_put {d : Dsk} {G i : Nat} {s : List UInt8} (h : Low d G) (hs : i < 2 → SecLe G s) : Low (d.put i s) G := fun k hk => ⟨(h k hk).1, fun t ht => by
  by_cases e : k = i
  · subst e
    have : t = s := by simpa [Dsk.put, upd] using ht.symm
    rw [this]
    exact hs hk
  · exact (h k hk).2 t (by simpa [Dsk.put, upd, e] using ht)⟩
theorem low_wr {d : Dsk} {G i : Nat} {s : List UInt8} (h : Low d G) (hs : i < 2 → SecLe G s) : Low (wr d i s) G := by
  unfold wr
  split
  · exact h
  · split
    · exact low_put (low_deed h) hs
    · exact low_deed h
theorem low_sy {d : Dsk} {G : Nat} (h : Low d G) : Low (sy d) G := by
  unfold sy
  split
  · exact h
  · split
    · refine fun i hi => ⟨?_, fun s hs => by cases hs⟩
      have h2 := low_deed h i hi
      show SecLe G ((d.deed.waits i).getD (d.deed.safe i))
      cases hw : d.deed.waits i with
      | none => exact h2.1
      | some s => exact h2.2 s hw
    · exact low_deed h
theorem low_wrs {G : Nat} {l : List (List UInt8)} : ∀ {d : Dsk} {i : Nat}, Low d G → 2 ≤ i → Low (wrsD d i l) G := by
  induction l with
  | nil => exact fun h _ => h
  | cons s l ih =>
    intro d i h hi
    unfold wrsD
    have h1 : Low (wr d i s) G := low_wr h (fun h2 => by omega)
    split
    · exact ih h1 (by omega)
    · exact h1
theorem low_keep {d : Dsk} {G i : Nat} {l : List (List UInt8)} (h : Low d G) (hi : 2 ≤ i) : Low (keepD d i l) G := by
  unfold keepD
  split
  · exact low_sy (low_wrs h hi)
  · exact low_wrs h hi
theorem low_keep1 {d : Dsk} {G i : Nat} {s : List UInt8} (h : Low d G) (hs : SecLe G s) : Low (keepD d i [s]) G := by
  have h1 : Low (wr d i s) G := low_wr h (fun _ => hs)
  have h2 : wrsD d i [s] = wr d i s := by
    unfold wrsD
    split <;> rfl
  unfold keepD
  rw [h2]
  split
  · exact low_sy h1
  · exact h1
theorem low_begin {d : Dsk} {G gen : Nat} {l : List (List UInt8)} (h : Low d G) (hg : gen ≤ G) (hb : gen < 9223372036854775808) : Low (beginD d gen l) G := by
  have h1 : Low (keepD d (secAt d.n gen 0) (beginL d.n gen l)) G := low_keep h (sec_two _ _ _)
  unfold beginD
  split
  · exact low_keep1 h1 (secLe_put hg hb)
  · exact h1
theorem low_ext {d : Dsk} {G gen pos seq : Nat} {b : List UInt8} (h : Low d G) : Low (extD d gen pos seq b) G := by
  have h1 : Low (keepD d (secAt d.n gen (pos + 1)) (extL d.n pos b)) G := low_keep h (sec_two _ _ _)
  unfold extD
  split
  · exact low_keep h1 (sec_two _ _ _)
  · exact h1
theorem low_app {d : Dsk} {G : Nat} {j : Jr} {b : List UInt8} (h : Low d G) : Low (appD d j b) G := by
  unfold appD
  split
  · exact low_ext h
  · exact h
theorem low_rst {d : Dsk} {G : Nat} {j : Jr} {l : List (List UInt8)} (h : Low d G) (hg : j.gen + 1 ≤ G) (hb : G < 9223372036854775808) : Low (rstD d j l) G := by
  unfold rstD
  split
  · exact low_begin h hg (by omega)
  · exact h
theorem low_open {d : Dsk} {G : Nat} (h : Low d G) (hg : 1 ≤ G) : Low (openD d) G := by
  unfold openD
  split
  · exact low_begin h hg (by omega)
  · exact h
theorem low_stop {d : Dsk} {G : Nat} {k : Int} (h : Low d G) : Low (d.stop k) G := low_same h rfl rfl
theorem secLe_halfs {G : Nat} {a b x : List UInt8} (ha : SecLe G a) (hb : SecLe G b) (h : halfs a b x) : SecLe G x := by
  refine ⟨?_, ?_⟩
  · rcases h.1 with e | e <;> rw [e]
    · exact ha.1
    · exact hb.1
  · rcases h.2 with e | e <;> rw [e]
    · exact ha.2
    · exact hb.2
theorem low_read {d : Dsk} {G i : Nat} (h : Low d G) (hi : i < 2) : SecLe G (d.read i) := by
  unfold Dsk.read
  cases hw : d.waits i with
  | none => exact (h i hi).1
  | some s => exact (h i hi).2 s hw
theorem low_crash {d : Dsk} {G : Nat} {fs : List Int} (h : Low d G) (hok : d.ok) (hn : 2 ≤ d.n) : Low (d.crash fs) G := fun i hi =>
  ⟨secLe_halfs (h i hi).1 (low_read h hi) (crash_halfs hok fs _ (Nat.le_refl _) i (by omega)), fun s hs => by cases hs⟩
theorem headIn_le {f : Nat → List UInt8} {i G : Nat} (h : SecLe G (f i)) : headIn f i ≤ G := by
  cases hb : getB (f i) with
  | false => rw [headIn_no hb]; exact Nat.zero_le _
  | true =>
    obtain ⟨m, hr, hx, hm⟩ := getB_halves hb
    have hf : m.fits := by
      have := getM_yes hb
      rw [hm] at this
      rw [this]
      exact readM_fits _
    have h1 := h.1 m hr hf (by rw [hx, List.take_left' (half_length _)])
    unfold headIn
    split
    · rw [hm]; omega
    · omega
theorem low_newest {d : Dsk} {G : Nat} (h : Low d G) (hn : 2 ≤ d.n) : newest (rd d) ≤ G := by
  have e : ∀ i, i < 2 → headIn (rd d) i ≤ G := fun i hi => headIn_le (by
    unfold rd
    rw [if_pos (by omega)]
    exact low_read h hi)
  unfold newest
  have := e 0 (by omega)
  have := e 1 (by omega)
  omega
theorem openJ_gen {d : Dsk} {G : Nat} (h : Low d G) (hn : 2 ≤ d.n) (hg : 1 ≤ G) : (openJ d).gen ≤ G := by
  have := low_newest h hn
  show openG d ≤ G
  unfold openG
  split <;> omega
theorem appJ_gen (d : Dsk) (j : Jr) (b : List UInt8) : (appJ d j b).gen = j.gen := by
  unfold appJ
  split
  · split <;> rfl
  · rfl
theorem rstJ_gen (d : Dsk) (j : Jr) (l : List (List UInt8)) : (rstJ d j l).gen ≤ j.gen + 1 := by
  unfold rstJ
  split
  · split
    · exact Nat.le_refl _
    · exact Nat.le_succ _
  · exact Nat.le_succ _
theorem appD_n (d : Dsk) (j : Jr) (b : List UInt8) : (appD d j b).n = d.n := by
  unfold appD
  split
  · exact extD_n _ _ _ _ _
  · rfl
theorem rstD_n (d : Dsk) (j : Jr) (l : List (List UInt8)) : (rstD d j l).n = d.n := by
  unfold rstD
  split
  · exact beginD_n _ _ _
  · rfl
end Go.Proofs.YtdjhlhellkajfaaGreat.JourM
