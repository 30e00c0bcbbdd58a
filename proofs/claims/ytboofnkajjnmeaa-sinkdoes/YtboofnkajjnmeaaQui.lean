/-
  A region that draws its order, each of whose operations yields one value in every world of a class, and leaves a world of that class: one walk in the text's order serves every order. No condition; nothing of the program is named here.
-/
import Derived.Test.YtboofnkajjnmeaaMem
import Derived.BigQuiet
namespace Go.Proofs.Ytboofnkajjnmeaa

theorem region_class {P : Program} {id : Nat} {l : List Oper} {Q : Exit → Act → World → Prop} {a : Act} {w : World} (C : World → Prop) (hm : P.follows .mixedOrders = true) (hB : Region.lexB .any l.toArray = true) (hC : C w.drew)
    (h : wpQuiet P l.toArray C (fun a' => ∀ w', C w' → Q .normal a' w') l a) : (Code.region id l.toArray true).wp P Q a w :=
  wp_region_quiet (C := C) hm hB hC (by simpa using h)

end Go.Proofs.Ytboofnkajjnmeaa
