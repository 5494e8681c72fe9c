/- Two stores side by side; Install of a list of one's own. -/
import Derived.Test.YtjefgmeejhakbaaDoorSeen
import Derived.Test.YtjefgmeejhakbaaDoorStored
import Derived.Test.YtjefgmeejhakbaaDoorTell
namespace Go.Proofs.YtjefgmeejhakbaaDoor
open Go.RowKit

/-- Two stores, apart from one another, from base on. -/
structure Two (w : World) (base A B : Nat) (la lb : Int) (va vb : List Value) (ka kb : List (List (Int × Int))) : Prop where
  a : Sto w base A la va ka
  b : Sto w base B lb vb kb
  ap : ∀ g, InRows va g → ¬ InRows vb g
  ne : A ≠ B
  hb : base ≤ w.heap.size

section
variable {w w' : World} {base A B : Nat} {la lb : Int} {va vb : List Value} {ka kb : List (List (Int × Int))}
theorem Two.below (h : Two w base A B la lb va vb ka kb) (hB : Below w.heap.size w w') : Two w' base A B la lb va vb ka kb :=
  ⟨h.a.below hB, h.b.below hB, h.ap, h.ne, Nat.le_trans h.hb hB.size⟩
theorem Two.left (h : Two w base A B la lb va vb ka kb) {la' : Int} {va' : List Value} {ka' : List (List (Int × Int))} (hs : Sto w' base A la' va' ka') (hk : Kept A va va' w w') : Two w' base A B la' lb va' vb ka' kb := by
  refine ⟨hs, ?_, ?_, h.ne, Nat.le_trans h.hb hk.size⟩
  · exact h.b.kept (hk.block B h.b.lt (fun e => h.ne e.symm) (fun hr => by have := (h.a.row hr).1; have := h.b.sb; omega))
      (fun g hg => hk.block g (h.b.row hg).2 (by have := (h.b.row hg).1; have := h.a.sb; omega) (fun ha => h.ap g ha hg))
  · intro g ha hb
    rcases hk.sub g ha with h1 | h1
    · exact h.ap g h1 hb
    · have := (h.b.row hb).2; omega
theorem Two.right (h : Two w base A B la lb va vb ka kb) {lb' : Int} {vb' : List Value} {kb' : List (List (Int × Int))} (hs : Sto w' base B lb' vb' kb') (hk : Kept B vb vb' w w') : Two w' base A B la lb' va vb' ka kb' := by
  refine ⟨?_, hs, ?_, h.ne, Nat.le_trans h.hb hk.size⟩
  · exact h.a.kept (hk.block A h.a.lt h.ne (fun hr => by have := (h.b.row hr).1; have := h.a.sb; omega))
      (fun g hg => hk.block g (h.a.row hg).2 (by have := (h.a.row hg).1; have := h.b.sb; omega) (fun hb => h.ap g hg hb))
  · intro g ha hb
    rcases hk.sub g hb with h1 | h1
    · exact h.ap g ha h1
    · have := (h.a.row ha).2; omega
end

/-- Install of writes in a row of one's own. -/
theorem install_own (base base' s : Nat) (last t : Int) (vs : List Value) (ks : List (List (Int × Int))) (ws : List (Int × Int)) (tv : Value) (w : World) (h : Sto w base s last vs ks) (hbase : base ≤ w.heap.size)
    (how : w.ownsRow base' 64 2 tv ws.length (vrow ws)) (hap : ∀ g, tv.ownBlock = some g → g ≠ s ∧ ¬ InRows vs g) (hfine : ∀ p ∈ ws, Fine p) (h1 : last < t) (h2 : t ≤ 1099511627776) (hn : ws.length ≤ 1000) (hks : ∀ l ∈ ks, l.length ≤ 100000) :
    Calls Tryd.prog 9 #[.pointer (some ⟨s, 0, none⟩), .int .i64 t, tv] w fun e w' => e = .returned .nilIface ∧
      ∃ vs', Sto w' base s t vs' (instP t ws ks) ∧ Kept s vs vs' w w' := by
  rcases how.2 with ⟨rfl, hz⟩ | ⟨g, cap, cur, rfl, hg, hgg, _⟩
  · have : ws = [] := List.eq_nil_of_length_eq_zero hz
    subst this
    exact install_nil base s last t vs ks w h h1 h2
  · have hc := how.cells (g := g) rfl
    refine install_good base s g 0 cap last t vs ks ws w h hbase (fun j a v e => ?_) (hap g rfl).2 (hap g rfl).1 (Array.getElem?_eq_some_iff.1 hgg).1 hfine h1 h2 hn hks
    have hx := vrow_get ws j a v e
    have c1 := hc _ _ hx.1
    have c2 := hc _ _ hx.2
    rw [addr_add] at c1 c2
    rw [Nat.zero_add]
    exact ⟨c1, c2⟩

end Go.Proofs.YtjefgmeejhakbaaDoor
