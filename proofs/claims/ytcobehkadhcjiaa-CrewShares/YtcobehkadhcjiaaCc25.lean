/-
  Goroutines among others: part 25 of what the law's own text rests on.
-/
import Derived.Test.YtcobehkadhcjiaaCc13
import Derived.Test.YtcobehkadhcjiaaCc21
import Derived.Test.YtcobehkadhcjiaaCc24
/-
  What a worker of crew.Splits tells: share.Split's answer, in memory of its own.
-/
namespace Go.Proofs.Ytcobehkadhcjiaa
open Go Go.Conc Go.RowKit

/-- A row of its own: nothing, or in a block that is not below B. -/
def OwnI (B : Nat) (w : World) (r : Value) (l : List Int) : Prop := (l = [] ∧ r = .slice none 0 0) ∨ ∃ g c, r = .slice (some ⟨g, 0, none⟩) l.length c ∧ RowI w g l ∧ B ≤ g

theorem split_own (v : Value) (l : List Int) (t : Int) (hbig : l.length ≤ 9223372036854775807) (w : World) (h : Seg w v l) (hv : Lies w.heap.size v) :
    Calls Try.prog 22 #[.int .i64 t, v] w fun e w' => ∃ r, e = .returned (.tuple #[r, .int .i64 (Bo.Plain.splitE t l : Nat)]) ∧ OwnI w.heap.size w' r (Bo.Plain.splitV t l) ∧ Below w.heap.size w w' := by
  obtain ⟨p, c, rfl, hp⟩ := Bo.seg_wants h hv
  by_cases he : Bo.Plain.splitE t l = 0
  · refine (Bo.split_ok p l.length c l t he w rfl hp).mono ?_
    rintro e w' ⟨g, rfl, hr, hg, hb⟩
    rw [he, Bo.Plain.splitV_ok he]
    refine ⟨_, rfl, .inr ⟨g, l.length, ?_, hr, hg⟩, hb⟩
    rw [Bo.Plain.split_len]
  · refine (Bo.split_err p l.length c l t he w rfl hbig hp).mono ?_
    rintro e w' ⟨rfl, hb⟩
    rw [Bo.Plain.splitV_no he]
    exact ⟨_, rfl, .inl ⟨rfl, rfl⟩, hb⟩

/-- What a worker tells. -/
def specS (t : Int) (l : List Int) : World → Value → Prop := fun w v => ∃ r, v = .agg #[r, .int .i64 (Bo.Plain.splitE t l : Nat)] ∧ Seg w r (Bo.Plain.splitV t l) ∧ Slv w.heap.size r

theorem cell_of {w : World} {b o : Nat} {u : Value} (h : w.cell? ⟨b, o, none⟩ = some u) : ∃ c e f, w.heap[b]? = some (.cells c e f) ∧ c[o]? = some u := by
  unfold World.cell? at h
  split at h
  · rename_i c e f hc
    exact ⟨c, e, f, hc, by simpa using h⟩
  · cases h
theorem cell_is {w : World} {b o : Nat} {u : Value} {c : Array Value} {e : TypeId} {f : Nat × Nat} (h : w.heap[b]? = some (.cells c e f)) (hu : c[o]? = some u) : w.cell? ⟨b, o, none⟩ = some u := by
  unfold World.cell?
  simp only [h]
  simpa using hu

theorem moves_specS (t : Int) (l : List Int) : Moves (specS t l) := by
  intro q w w1 cs cs1 hq hz hv ⟨r, e, hs, hl⟩
  cases e
  have z1 : cs1.size = 2 := hz
  obtain ⟨_, hn0, hs0⟩ := hv 0 (by simp) (by omega)
  obtain ⟨hp1, _, _⟩ := hv 1 (by simp) (by omega)
  have e1 : cs1[1] = .int .i64 (Bo.Plain.splitE t l : Nat) := hp1 (by simp [Plnv])
  have e2 : cs1 = #[cs1[0], .int .i64 (Bo.Plain.splitE t l : Nat)] := by
    apply Array.ext (by simp [z1])
    intro i h1 h2
    have : i = 0 ∨ i = 1 := by simp at h2; omega
    rcases this with rfl | rfl
    · simp
    · simpa using e1
  simp only [List.getElem_toArray, List.getElem_cons_zero] at hn0 hs0
  refine ⟨cs1[0], congrArg Value.agg e2, ?_⟩
  have tr : ∀ {b0 b1 o : Nat} {u : Value}, q b0 b1 → Plnv u → w.cell? ⟨b0, o, none⟩ = some u → w1.cell? ⟨b1, o, none⟩ = some u := fun hb hp hu => by
    obtain ⟨c, e, f, k1, k2⟩ := cell_of hu
    obtain ⟨c1, f1, k3, _, k4⟩ := hq _ _ hb c e f k1
    exact cell_is k3 (k4 _ _ k2 hp)
  generalize cs1[0] = v1 at hn0 hs0
  rcases hs with ⟨e, p, c, rfl⟩ | ⟨b0, off, c, rfl, k⟩
  · cases p with
    | none =>
      rw [hn0 _ _ rfl, e]
      exact ⟨.inl ⟨rfl, _, _, rfl⟩, trivial⟩
    | some x =>
      obtain ⟨a1, h1, h2, _⟩ := hs0 _ _ _ rfl
      rw [h1, e]
      exact ⟨.inl ⟨rfl, _, _, rfl⟩, h2⟩
  · obtain ⟨a1, h1, hlt, h2⟩ := hs0 _ _ _ rfl
    rw [h1]
    generalize Bo.Plain.splitV t l = M at *
    by_cases h0 : M.length = 0
    · have : M = [] := List.length_eq_zero_iff.1 h0
      subst this
      exact ⟨.inl ⟨rfl, _, _, rfl⟩, hlt⟩
    · have hb := h2.resolve_left h0
      exact ⟨.inr ⟨a1, off, c, rfl, fun j hj => tr hb trivial (k j hj)⟩, hlt⟩

theorem OwnI.seg {B : Nat} {w : World} {r : Value} {l : List Int} (h : OwnI B w r l) : Seg w r l := by
  rcases h with ⟨rfl, rfl⟩ | ⟨g, c, rfl, hr, _⟩
  · exact Seg.nil _
  · exact hr.seg _
theorem OwnI.slv {B : Nat} {w : World} {r : Value} {l : List Int} (h : OwnI B w r l) : Slv w.heap.size r := by
  rcases h with ⟨rfl, rfl⟩ | ⟨g, c, rfl, hr, _⟩
  · trivial
  · exact hr.lt
theorem OwnI.heap {B : Nat} {w w' : World} {r : Value} {l : List Int} (h : OwnI B w r l) (e : w'.heap = w.heap) : OwnI B w' r l := by
  rcases h with ⟨rfl, rfl⟩ | ⟨g, c, rfl, hr, hB⟩
  · exact .inl ⟨rfl, rfl⟩
  · exact .inr ⟨g, c, rfl, hr.of_block (by rw [e]), hB⟩
theorem OwnI.slice {B : Nat} {w : World} {r : Value} {l : List Int} (h : OwnI B w r l) : ∃ a n c, r = .slice a n c := by
  rcases h with ⟨rfl, rfl⟩ | ⟨g, c, rfl, hr, hB⟩
  · exact ⟨_, _, _, rfl⟩
  · exact ⟨_, _, _, rfl⟩
theorem OwnI.told {B : Nat} {w : World} {r : Value} {t : Int} {l : List Int} (h : OwnI B w r (Bo.Plain.splitV t l)) : specS t l w (.agg #[r, .int .i64 (Bo.Plain.splitE t l : Nat)]) ∧ Nwv B (.agg #[r, .int .i64 (Bo.Plain.splitE t l : Nat)]) := by
  refine ⟨⟨r, rfl, h.seg, h.slv⟩, fun i hi => ?_⟩
  have : i = 0 ∨ i = 1 := by simp at hi; omega
  rcases this with rfl | rfl
  · right
    simp only [List.getElem_toArray, List.getElem_cons_zero]
    rcases h with ⟨_, rfl⟩ | ⟨g, c, rfl, hr, hB⟩
    · exact .inl ⟨_, _, rfl⟩
    · exact .inr ⟨_, _, _, rfl, .inr hB⟩
  · left
    simp [Plnv]
end Go.Proofs.Ytcobehkadhcjiaa

/-
  THE PROGRAM at hand, beside sync.WaitGroup: what a goroutine may do among others.
-/
namespace Go.Proofs.Ytcobehkadhcjiaa
open Go Go.Conc

def lS1 : List FuncId := [8, 9, 14, 16, 17, 18, 22, 24, 25, 26, 49, 50, 51, 52, 53, 54, 78]
def S1 : FuncId → Bool := fun f => lS1.contains f
def V1 : FuncId → Bool := fun _ => false
theorem all_ok1 : lS1.all (okFn Try.prog S1 V1) = true := by kernel_rfl
theorem ok_glob : Try.prog.globals.size = 0 := by kernel_rfl
theorem ok_bog : Try.prog.info? bogT = none := by kernel_rfl
theorem ok_ahead : Try.prog.follows .staticDataAhead = true := by kernel_rfl
theorem mixed : Try.prog.follows .mixedOrders = true := by kernel_rfl
end Go.Proofs.Ytcobehkadhcjiaa
