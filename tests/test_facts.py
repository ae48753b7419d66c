import itertools
import unittest

from stillroom.facts import facts_of, is_sound
from stillroom.showing import acts, depth, show
from stillroom.signs import KINDS, kind_of, possible_kinds
from documents import all_kinds, crate_of, drawn_document, folio, folio_of, moving, picture, sheet, still
from support import changed, check_copies, drawn, drawn_bytes

ACT_KINDS = ("open", "file", "link", "form", "fetch", "script")
NAMES = ("name", "size", "kind", "kinds", "pages", "acts", "depth")
FACTS = {"name": (97, 46), "size": 10, "kind": "folio", "kinds": ("folio", "crate"), "pages": 2, "acts": ("open",),
         "depth": 1}


class Facts(unittest.TestCase):
    def check(self, data, kind, kinds, pages, told=(), inside=0):
        found = facts_of([97, 255], data)
        self.assertEqual(found, ((97, 255), len(data), kind, tuple(kinds), pages, tuple(told), inside))
        self.assertTrue(is_sound(found))

    def test_no_kind(self):
        self.check([], "", [], 0)
        self.check([1, 2, 3], "", [], 0)

    def test_each_kind(self):
        self.check(still(5, 6), "still", ["still"], 2)
        self.check(picture(5), "picture", ["picture"], 1)
        self.check(moving(5, 6, 7), "film", ["film"], 3)
        self.check(sheet('A1 =LINK("a")\nE5 =FETCH("b")\n'), "sheet", ["sheet"], 2, ["link", "fetch"])
        data = folio_of(5, 6, more="/Open (a) /Files [(b)]", acts=("c", "d"))
        self.check(data, "folio", ["folio"], 2, ["open", "file", "script", "script"])
        self.check(crate_of(a=still(5)), "crate", ["crate"], 1, [], 1)
        self.check(crate_of(a=crate_of(b=crate_of(c=[]))), "crate", ["crate"], 0, [], 3)

    def test_the_deepest_crates(self):
        data = still(5)
        for levels in range(1, 7):
            data = crate_of(a=data)
            self.check(data, "crate", ["crate"], 1 if levels <= 4 else 0, [], min(levels, 4))

    def test_all_kinds_of_acts(self):
        blocks = "<</Kind /Field>> <</Kind /Fetch>> <</Kind /Script>> <</Kind /Text /Runs [<</Link (a)>>]>>"
        data = folio(f"#1 <</Pages [<</Body [{blocks}]>>] /Files [1] /Open 5>>")
        self.check(data, "folio", ["folio"], 1, ["open", "file", "form", "fetch", "script", "link"])

    def test_several_kinds(self):
        self.check(folio_of(5) + crate_of(a=still(6)), "folio", ["folio", "crate"], 1)
        self.check(crate_of(a=still(6)) + folio_of(5), "crate", ["folio", "crate"], 1, [], 1)
        self.check(picture(5) + folio_of(5) + crate_of(), "picture", ["picture", "folio", "crate"], 1)
        self.check(still(5) + crate_of(), "still", ["still", "crate"], 0)

    def test_names(self):
        for name in ([], [0], [97] * 300, list(range(256))):
            found = facts_of(name, [1])
            self.assertEqual(found[0], tuple(name))
            self.assertTrue(is_sound(found))

    def test_drawn_documents(self):
        source = drawn(80)
        for _ in range(300):
            data = changed(source, drawn_document(source))
            name = drawn_bytes(source, 5)
            found = facts_of(name, data)
            self.assertEqual(found, (
                tuple(name), len(data), kind_of(data), tuple(possible_kinds(data)), len(show(data)),
                tuple(kind for kind, _ in acts(data)), depth(data),
            ))
            self.assertTrue(is_sound(found))

    def test_copies(self):
        for data in all_kinds().values():
            check_copies(self, facts_of, [97], data)


class Sound(unittest.TestCase):
    def facts(self, **parts):
        return tuple({**FACTS, **parts}[name] for name in NAMES)

    def check(self, is_right, part, *values):
        for value in values:
            self.assertIs(is_sound(self.facts(**{part: value})), is_right, (part, value))

    def test_the_facts_themselves(self):
        self.assertIs(is_sound(self.facts()), True)
        self.assertIs(is_sound(((), 0, "", (), 0, (), 0)), True)

    def test_no_tuples_of_seven(self):
        facts = self.facts()
        for value in (None, 5, "facts", [], (), {}, list(facts), facts[:6], facts + (0,), (facts,), facts[::-1], True,
                      b"facts"):
            self.assertIs(is_sound(value), False)
        self.assertIs(is_sound(dict(enumerate(facts))), False)

    def test_names(self):
        self.check(True, "name", (), (0,), (255,), (97,) * 1000)
        self.check(False, "name", [], [97], "a", b"a", None, 5, (256,), (-1,), (True,), ("a",), (97, None), ((97,),),
                   (97, [98]))

    def test_sizes(self):
        self.check(True, "size", 0, 1, 2147483647)
        self.check(False, "size", -1, 2147483648, True, False, None, "5", (5,), [5])

    def test_pages(self):
        self.check(True, "pages", *range(9))
        self.check(False, "pages", -1, 9, True, False, None, "5", (5,), [5])

    def test_depths(self):
        self.check(True, "depth", *range(5))
        self.check(False, "depth", -1, 5, True, False, None, "1", (1,), [1])

    def test_acts(self):
        self.check(True, "acts", (), ACT_KINDS, ACT_KINDS[::-1], ("open",) * 2000, *[(kind,) for kind in ACT_KINDS])
        self.check(False, "acts", [], ["open"], "open", None, 5, ("opens",), ("",), ("Open",), (None,), (5,),
                   (("open",),), ("open", "folio"), (b"open",), ("open", []), {"open": 1})

    def test_kinds(self):
        self.check(False, "kinds", [], ["folio"], "folio", None, 5, ("folios",), ("",), (None,), (5,), (("folio",),),
                   (b"folio",), ("folio", []), ("crate", "folio"), ("folio", "folio"), ("folio", "crate", "crate"),
                   {"folio": 1})

    def test_every_row_of_kinds(self):
        words = KINDS + ("",)
        for count in range(4):
            for kinds in itertools.product(KINDS, repeat=count):
                places = [KINDS.index(kind) for kind in kinds]
                in_order = places == sorted(set(places))
                singles = [kind for kind in kinds if kind not in ("folio", "crate")]
                for kind in words:
                    if not in_order or len(singles) > 1:
                        is_right = False
                    elif singles:
                        is_right = kind == singles[0]
                    else:
                        is_right = kind in kinds or (kind == "" and not kinds)
                    self.assertIs(is_sound(self.facts(kind=kind, kinds=kinds)), is_right, (kind, kinds))

    def test_kind(self):
        self.check(True, "kind", "folio", "crate")
        self.check(False, "kind", "", "still", "Folio", None, 5, ("folio",), ["folio"], b"folio", True)
        for kind in (None, 0, False, (), "folio", []):
            self.assertIs(is_sound(self.facts(kind=kind, kinds=())), False)

    def test_each_part_by_other_kinds_of_values(self):
        for part in NAMES:
            self.check(False, part, None, True, False, 1.5, [], {}, "x", b"x", [5], object(), -1, (None,))

    def test_copies(self):
        check_copies(self, is_sound, self.facts())
        check_copies(self, is_sound, ([97], 10, "folio", ["folio"], 2, [], 1))


if __name__ == "__main__":
    unittest.main()
