

/- Plain: tables of who holds a key and who waits for it, as lists; what Ask and Drop make of them; nobody waits for ever. -/
namespace Go.Proofs.YtjefgmeejhakbaaGreatDoor
def updT {α : Type} (T : Int → α) (k : Int) (l : α) : Int → α := fun j => if j = k then l else T j
theorem updT_same {α : Type} (T : Int → α) (k : Int) (l : α) : updT T k l k = l := by simp [updT]
theorem updT_other {α : Type} (T : Int → α) {k j : Int} (l : α) (h : j ≠ k) : updT T k l j = T j := by simp [updT, h]
end Go.Proofs.YtjefgmeejhakbaaGreatDoor
