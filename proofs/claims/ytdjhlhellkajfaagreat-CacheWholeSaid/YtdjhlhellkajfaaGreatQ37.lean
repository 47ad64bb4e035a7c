/-
  Texts JTurn, in one file. What each proves, and its conditions, stand at its head below.
-/
import Derived.Test.YtdjhlhellkajfaaGreatQ25
/-
  What one act of the law does to a journal at rest, as plain mathematics: behind any crash it has what it had, or what was on its way. No program.
-/
namespace Go.Proofs.YtdjhlhellkajfaaGreat.JourM
open Codec FrameM
open Disk (Dsk)
/-- Behind an act: has, or may, behind any crash; has, where the power is on. -/
structure After (d : Dsk) (jr : Jr) (has may : List (List UInt8)) (G : Nat) : Prop where
  ok : d.ok
  n40 : d.n = 40
  torn : ∀ fs, ∃ j, Rest (d.crash fs) j ∧ (j.gs = has ∨ j.gs = may) ∧ j.gen ≤ G
  calm : jr.down = false → d.off = false → Rest d jr ∧ jr.gs = has ∧ jr.gen ≤ G
theorem rest_of_good {d : Dsk} {gen : Nat} {gs : List (List UInt8)} (hok : d.ok) (h8 : 8 ≤ d.n) {fs : List Int} (h : Good (rd (d.crash fs)) d.n gen gs) : Rest (d.crash fs) ⟨gen, gs, false⟩ :=
  ⟨Disk.Dsk.crash_ok hok fs, h8, rfl, rfl, rfl, h⟩
theorem Rest.after {d : Dsk} {jr : Jr} (h : Rest d jr) (hn : d.n = 40) {G : Nat} (hG : jr.gen ≤ G) (m : List (List UInt8)) : After d jr jr.gs m G :=
  ⟨h.ok, hn, fun fs => ⟨jr, rest_crash h fs, .inl rfl, hG⟩, fun _ _ => ⟨h, rfl, hG⟩⟩
theorem Still.after {d : Dsk} {jr : Jr} (h : Still d jr) (hn : d.n = 40) {G : Nat} (hG : jr.gen ≤ G) (m : List (List UInt8)) : After d jr jr.gs m G :=
  ⟨h.ok, hn, fun fs => ⟨jr, h.crash fs, .inl rfl, hG⟩, fun _ ho => ⟨h.rest ho, rfl, hG⟩⟩
theorem app_law {d : Dsk} {jr : Jr} (h : Rest d jr) (hn : d.n = 40) {G : Nat} (hG : jr.gen ≤ G) (b : List UInt8) :
    (appE d jr b = 0 ∧ ∀ m, After (appD d jr b) (appJ d jr b) (jr.gs ++ [b]) m G) ∨ ((appE d jr b = 1 ∨ appE d jr b = 2) ∧ ∀ m, After (appD d jr b) (appJ d jr b) jr.gs m G) ∨
    (appE d jr b = 3 ∧ After (appD d jr b) (appJ d jr b) jr.gs (jr.gs ++ [b]) G) := by
  have hup := h.up
  rcases Jou.app_parts d jr b with ⟨hd, _⟩ | ⟨_, _, hz, hD, hJ⟩ | ⟨_, _, _, hz, hD, hJ⟩ | ⟨_, hl, hf, hx, hz, hD, hJ⟩ | ⟨_, hl, hf, hx, hz, hD, hJ⟩
  · rw [hup] at hd
    cases hd
  · refine .inr (.inl ⟨.inl hz, fun m => ?_⟩)
    rw [hD, hJ]
    exact h.after hn hG m
  · refine .inr (.inl ⟨.inr hz, fun m => ?_⟩)
    rw [hD, hJ]
    exact h.after hn hG m
  · have ht : takes jr.gs + takes1 b ≤ room d.n := by omega
    have hok := (ext_ok (gen := jr.gen) (seq := jr.gs.length) h.ok h.n8 ht).2
    have hnn := extD_n d jr.gen (takes jr.gs) jr.gs.length b
    refine .inr (.inr ⟨hz, ?_⟩)
    rw [hD, hJ]
    refine ⟨hok, by rw [hnn]; exact hn, fun fs => ?_, fun hd => by cases hd⟩
    have h8 : 8 ≤ (extD d jr.gen (takes jr.gs) jr.gs.length b).n := by rw [hnn]; exact h.n8
    rcases (app_torn h hl ht hx fs).2 with hg | hg
    · rw [← hnn] at hg
      exact ⟨_, rest_of_good hok h8 hg, .inl rfl, hG⟩
    · rw [← hnn] at hg
      exact ⟨_, rest_of_good hok h8 hg, .inr rfl, hG⟩
  · have ht : takes jr.gs + takes1 b ≤ room d.n := by omega
    refine .inl ⟨hz, fun m => ?_⟩
    rw [hD, hJ]
    exact (app_done h hl ht hx).after (by rw [extD_n]; exact hn) hG m
theorem rst_law {d : Dsk} {jr : Jr} (h : Rest d jr) (hn : d.n = 40) {G : Nat} (hG : jr.gen ≤ G) (hg : jr.gen + 1 < 9223372036854775808) (ls : List (List UInt8)) :
    (rstE d jr ls = 0 ∧ ∀ m, After (rstD d jr ls) (rstJ d jr ls) ls m (G + 1)) ∨ ((rstE d jr ls = 1 ∨ rstE d jr ls = 2) ∧ ∀ m, After (rstD d jr ls) (rstJ d jr ls) jr.gs m (G + 1)) ∨
    (rstE d jr ls = 3 ∧ After (rstD d jr ls) (rstJ d jr ls) jr.gs ls (G + 1)) := by
  have hup := h.up
  have hG1 : jr.gen ≤ G + 1 := by omega
  have hG2 : jr.gen + 1 ≤ G + 1 := by omega
  rcases Jou.rst_parts d jr ls with ⟨hd, _⟩ | ⟨_, _, hz, hD, hJ⟩ | ⟨_, _, _, hz, hD, hJ⟩ | ⟨_, hl, hf, hx, hz, hD, hJ⟩ | ⟨_, hl, hf, hx, hz, hD, hJ⟩
  · rw [hup] at hd
    cases hd
  · refine .inr (.inl ⟨.inl hz, fun m => ?_⟩)
    rw [hD, hJ]
    exact h.after hn hG1 m
  · refine .inr (.inl ⟨.inr hz, fun m => ?_⟩)
    rw [hD, hJ]
    exact h.after hn hG1 m
  · have hok := (begin_ok (gen := jr.gen + 1) h.ok h.n8 hf).2
    have hnn := beginD_n d (jr.gen + 1) ls
    refine .inr (.inr ⟨hz, ?_⟩)
    rw [hD, hJ]
    refine ⟨hok, by rw [hnn]; exact hn, fun fs => ?_, fun hd => by cases hd⟩
    have h8 : 8 ≤ (beginD d (jr.gen + 1) ls).n := by rw [hnn]; exact h.n8
    rcases (rst_torn h hg (Jou.anyLong_all hl) hf hx fs).2 with hg | hg
    · rw [← hnn] at hg
      exact ⟨_, rest_of_good hok h8 hg, .inl rfl, hG1⟩
    · rw [← hnn] at hg
      exact ⟨_, rest_of_good hok h8 hg, .inr rfl, hG2⟩
  · refine .inl ⟨hz, fun m => ?_⟩
    rw [hD, hJ]
    exact (rst_done h hg (Jou.anyLong_all hl) hf hx).after (by rw [beginD_n]; exact hn) hG2 m
end Go.Proofs.YtdjhlhellkajfaaGreat.JourM
