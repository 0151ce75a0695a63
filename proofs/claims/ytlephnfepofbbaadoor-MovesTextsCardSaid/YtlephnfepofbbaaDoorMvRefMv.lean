/-
  The document's move of words.
-/
import Derived.Test.YtlephnfepofbbaaDoorMvRefPut
import Derived.Test.YtlephnfepofbbaaDoorMvRefMove
namespace Go.Proofs.YtlephnfepofbbaaDoor
open Go.RowKit Go.Shelf Go.Maps Go.ChangeMaps

theorem rmove_any (A : Option Addr) (n cp : Nat) (ws : List ByteArray) (w : World) (hW : Wds w A n ws) (hn : 0 < n) (hn2 : n ≤ 100000) (hcp : n ≤ cp) :
    Calls Tryd.prog 43 #[.slice A n cp] w (MoveR w (moveR (lw ws))) := by
  by_cases h : opOf ((lw ws).getD 0 []) = some 1
  · exact rmove_put A n cp ws w h hW hn hn2 hcp
  · exact rmove_other A n cp ws w h hW hn hn2 hcp
end Go.Proofs.YtlephnfepofbbaaDoor
