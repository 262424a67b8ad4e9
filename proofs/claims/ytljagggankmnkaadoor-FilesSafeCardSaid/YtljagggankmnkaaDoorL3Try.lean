/- Layer 3's law package: try. -/
import Derived.Test.YtljagggankmnkaaDoorL3TryB
import Derived.Test.YtljagggankmnkaaDoorL3TryC
import Derived.Test.YtljagggankmnkaaDoorL3TryD
import Derived.Test.YtljagggankmnkaaDoorL3TryE
import Derived.Test.YtljagggankmnkaaDoorL3TryF
import Derived.Test.YtljagggankmnkaaDoorL3TryG
namespace Go.Proofs.YtljagggankmnkaaDoor
open Go.RowKit Go.Maps

theorem try_is (a : Act3) {B p : Nat} {F : Nat → Prop} {su no : List (Bs × Bs)} {st : List (Stp Bs)} {D : Value} (w : World) (hd : Disk w B p F su no st) (hB : B ≤ w.heap.size) (hR : RefIs F w D no su st)
    (hE : ∀ F' W, Turn F w F' W → ErrT W) (ha : ActOk a) :
    Calls Tryd.prog 9 #[.pointer (some ⟨p, 0, none⟩), D, actV a] w (Tried3 B p F w) := by
  obtain ⟨kind, nm, to, b, steps, part⟩ := a
  obtain ⟨_, h1, h2, h3, h4, h5⟩ := ha
  dsimp only at h1 h2 h3 h4 h5
  have hk := kOf_lt kind
  rcases (show (kOf kind = 0 ∨ kOf kind = 1) ∨ kOf kind = 2 ∨ kOf kind = 3 ∨ kOf kind = 4 ∨ kOf kind = 5 by omega) with h | h | h | h | h
  · exact try_wr3 kind nm to b steps part w hd hB hR hE h1 h3 h
  · exact try_re3 kind nm to b steps part w hd hB hR hE h1 h2 h
  · exact try_rm3 kind nm to b steps part w hd hB hR hE h1 h
  · exact try_sy3 kind nm to b steps part w hd hB hR hE h
  · by_cases hbad : steps < 0 ∨ (st.length : Int) < steps ∨ part < 0
    · exact try_cn3 kind nm to b steps part w hd hB hR hE hbad h
    · exact try_cy3 kind nm to b steps part steps.toNat part.toNat (by omega) (by omega) w hd hB hR hE (by omega) (by omega) h
end Go.Proofs.YtljagggankmnkaaDoor
