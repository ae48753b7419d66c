"""The examples of the interface, and those of README.md."""

import builtins
import doctest
import pathlib
import unittest

from stillroom.cells import place_name
from stillroom.crates import open_crate, write_crate
from stillroom.deciding import shadowed
from stillroom.digits import from_hex, read_number, write_word
from stillroom.errors import Malformed
from stillroom.filling import curve
from stillroom.fonts import lookup, plain_font
from stillroom.formulas import read_formula
from stillroom.outlines import scale
from stillroom.pictures import write_picture
from stillroom.policies import matches, read_policy
from stillroom.rows import predict
from stillroom.runes import runes
from stillroom.runs import to_runs
from stillroom.showing import show
from stillroom.signs import plain_name
from stillroom.stills import write_still
from stillroom.window import unsqueeze

README = pathlib.Path(__file__).resolve().parent.parent / "README.md"


class Examples(unittest.TestCase):
    def test_codes(self):
        self.assertEqual(from_hex([52, 49, 32, 55, 45, 65], 100), ([65, 122], 94))
        self.assertEqual(write_word([97, 34, 10]), '"a\\22\\0a"')
        with self.assertRaises(Malformed):
            read_number("07")
        self.assertEqual(to_runs([5, 5, 5, 5, 1, 2]), [253, 5, 1, 1, 2, 128])
        self.assertEqual(unsqueeze([0, 7, 128, 1, 0], 100), ([7, 7, 7, 7], 91))
        self.assertEqual(predict([1, 2, 3, 2, 3, 4], 3), [1, 1, 1, 1, 2, 1, 1, 1])

    def test_crates(self):
        self.assertEqual(plain_name([65, 92, 46, 46, 92, 98, 46, 84, 88, 84]), "a/b.txt")
        self.assertEqual(plain_name([46, 46]), "part")
        self.assertEqual(write_crate([]), [67, 69, 78, 68, 0, 0, 0, 0, 0, 0])
        found = open_crate([7] + write_crate([("a", 0, 1, 3904355907, (97,))]), 100)
        self.assertEqual(found, ([("a", 0, 1, 3904355907, (97,))], 55))

    def test_glyphs_and_paint(self):
        self.assertEqual(runes([97, 195, 164, 195, 40]), [97, 228, 65533, 40])
        self.assertEqual(scale((((1, -1), (2, 3)),), 1, 2), (((0, -1), (1, 1)),))
        self.assertEqual(lookup(plain_font(), 65), 33)
        self.assertEqual(curve((0, 0), (8, 0), (8, 8))[3], (6, 2))
        self.assertEqual(write_picture((1, 1, [1056816])), [137, 73, 77, 71, 13, 10, 1, 1, 0, 0, 1, 16, 32, 48, 0])

    def test_sheets(self):
        self.assertEqual(place_name((2, 9)), "C10")
        self.assertEqual(read_formula([50, 42, 66, 49]), ("pair", "*", ("number", 2), ("place", 1, 0)))

    def test_sight(self):
        self.assertEqual(show([1, 2, 3]), [])
        self.assertEqual(len(write_still([])), 37)

    def test_policies(self):
        found = read_policy("drop if act script and not size < 10")
        self.assertEqual(found, (("drop", ((False, ("act", "script")), (True, ("size", "<", 10)))),))
        self.assertEqual(shadowed(read_policy("hold if could crate\nclean if is crate")), [1])
        self.assertIs(matches((97, 42), (97, 98)), True)

    def test_those_of_the_readme(self):
        found = doctest.DocTestParser().get_examples(README.read_text().replace("```", ""))
        self.assertGreater(len(found), 9)
        # Running them leaves the last result there.
        self.addCleanup(vars(builtins).pop, "_", None)
        self.assertEqual(doctest.testfile(str(README), module_relative=False, parser=Plain())[0], 0)


class Plain(doctest.DocTestParser):
    """Reads the examples between the lines that mark them off."""

    def parse(self, text, name="<string>"):
        return doctest.DocTestParser.parse(self, text.replace("```", ""), name)


if __name__ == "__main__":
    unittest.main()
