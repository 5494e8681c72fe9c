/- Two keys' versions of which one is the other without what nobody reads: what Read, Newer and Tell answer. -/
import Derived.Test.YtjefgmeejhakbaaDoorTwo
namespace Go.Proofs.YtjefgmeejhakbaaDoor
open Go.RowKit

/-- What Read answers at a key. -/
def ReadsAs (k : Nat) (t : Int) (l : List (Int × Int)) (a x : Int) (ev : Value) : Prop :=
  ∀ (w : World) (base s : Nat) (last : Int) (vs : List Value) (ks : List (List (Int × Int))), Sto w base s last vs ks → ks[k]? = some l → l.length ≤ 1000000 →
    Calls Tryd.prog 14 #[.pointer (some ⟨s, 0, none⟩), .int .i64 (k : Int), .int .i64 t] w fun e w' => e = .returned (.tuple #[.agg #[.int .i64 a, .int .i64 x], ev]) ∧ Below w.heap.size w w'
/-- How many times Newer answers at a key. -/
def NewsAs (k : Nat) (t : Int) (l : List (Int × Int)) (d : Nat) : Prop :=
  ∀ (w : World) (base s : Nat) (last : Int) (vs : List Value) (ks : List (List (Int × Int))), Sto w base s last vs ks → ks[k]? = some l → l.length ≤ 1000000 →
    Calls Tryd.prog 16 #[.pointer (some ⟨s, 0, none⟩), .int .i64 (k : Int), .int .i64 t] w fun e w' => ∃ ad cap, e = .returned (.tuple #[.slice ad d cap, .nilIface]) ∧ Below w.heap.size w w'
/-- What Tell answers. -/
def TellsAs (ev : Value) (c : Int) : Prop := ∀ w : World, Handle w → Calls Tryd.prog 26 #[ev] w fun e w' => e = .returned (.int .i64 c) ∧ Below w.heap.size w w'

theorem news_len (k : Nat) (t : Int) (l : List (Int × Int)) (d : Nat) (hd : (l.drop (lat l t + 1).toNat).length = d) : NewsAs k t l d := by
  intro w base s last vs ks h hl hlen
  refine (newer_any base s k last t vs ks l w h hl hlen).mono ?_
  rintro e w' ⟨tv, rfl, ho, hB⟩
  rw [hd] at ho
  rcases ho.2 with ⟨rfl, e0⟩ | ⟨g, cap, cur, rfl, _⟩
  · subst e0; exact ⟨none, 0, rfl, hB⟩
  · exact ⟨_, _, rfl, hB⟩

theorem see_same (k : Nat) {u t : Int} {la lb : List (Int × Int)} (h : Rel u la lb) (hu : u ≤ t) :
    ∃ (a x : Int) (ev : Value) (c : Int) (d : Nat), ReadsAs k t la a x ev ∧ ReadsAs k t lb a x ev ∧ TellsAs ev c ∧ NewsAs k t la d ∧ NewsAs k t lb d := by
  rcases h.see hu with ⟨h1, h2, rfl⟩ | ⟨m, n, a, x, h1, h2, h3, h4, h5⟩
  · refine ⟨0, 0, .iface 38 (.int .i64 8), 8, _, ?_, ?_, fun w hw => tell_errno 8 w hw, news_len k t la _ rfl, news_len k t la _ rfl⟩
    · exact fun w base s last vs ks hs hl hlen => read_none base s k last t vs ks la w hs hl hlen h1
    · exact fun w base s last vs ks hs hl hlen => read_none base s k last t vs ks la w hs hl hlen h1
  · refine ⟨a, x, .nilIface, 0, la.length - (m + 1), ?_, ?_, ?_, news_len k t la _ ?_, news_len k t lb _ ?_⟩
    · exact fun w base s last vs ks hs hl hlen => read_some base s k last t vs ks la w hs hl hlen m h1 a x h3
    · exact fun w base s last vs ks hs hl hlen => read_some base s k last t vs ks lb w hs hl hlen n h2 a x h4
    · intro w _
      refine (tell_nil w).mono ?_
      rintro e w' ⟨rfl, rfl⟩
      exact ⟨rfl, Below.refl _ _⟩
    · rw [h1, List.length_drop]; omega
    · rw [h2, List.length_drop]; omega

end Go.Proofs.YtjefgmeejhakbaaDoor
