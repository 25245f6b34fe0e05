/- A name for a value. -/
namespace Go.Proofs.YtomgijcbekjlaaaGreat
theorem nm_ {α : Sort _} (x : α) : ∃ n, n = x := ⟨x, rfl⟩
theorem ge_ {α : Type _} {xs : Array α} {i : Nat} {b : α} (h : xs[i]? = some b) : ∃ h : i < xs.size, xs[i] = b := Array.getElem?_eq_some_iff.1 h
end Go.Proofs.YtomgijcbekjlaaaGreat
