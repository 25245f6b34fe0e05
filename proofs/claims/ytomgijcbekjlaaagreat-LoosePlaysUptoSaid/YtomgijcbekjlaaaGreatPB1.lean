/- A fact, put aside. -/
import Derived.Lib.Hide
namespace Go.Proofs.YtomgijcbekjlaaaGreat
open Go.RowKit
theorem h_ {p : Prop} (h : p) : Hid p := Lib.hid h
end Go.Proofs.YtomgijcbekjlaaaGreat
