import unittest

from stillroom.values import depth, find, follow, get, is_book, is_value, reach
from folios import NONE, chained, nested
from support import check_copies, drawn

LEAVES = [
    NONE, ("bool", 0), ("bool", 1), ("int", 0), ("int", 2147483647), ("int", -2147483647),
    ("name", ()), ("name", (0, 37, 255)), ("text", ()), ("text", (40, 41)), ("ref", 1), ("ref", 9999),
]


def key(text):
    return tuple(text.encode("ascii"))


def dict_of(**pairs):
    return "dict", tuple((key(name), value) for name, value in pairs.items())


class Depth(unittest.TestCase):
    def test_values_without_parts(self):
        for value in LEAVES:
            self.assertEqual(depth(value), 0)

    def test_nothing_in_them(self):
        for value in (("list", ()), ("dict", ()), ("stream", (), (1, 2))):
            self.assertEqual(depth(value), 1)

    def test_the_greatest_of_the_parts(self):
        self.assertEqual(depth(("list", (NONE,))), 1)
        deep = ("list", (NONE, ("list", ()), ("dict", ((key("A"), ("stream", (), ())),)), NONE))
        self.assertEqual(depth(deep), 3)
        self.assertEqual(depth(("stream", ((key("A"), NONE), (key("B"), deep), (key("C"), NONE)), ())), 4)

    def test_deep_values(self):
        for kind in ("list", "dict", "stream"):
            for levels in (2, 15, 16, 17, 100):
                self.assertEqual(depth(nested(kind, levels)), levels)
                self.assertEqual(depth(nested(kind, levels, ("int", 5))), levels)


class IsValue(unittest.TestCase):
    def check(self, value, expected):
        found = is_value(value)
        self.assertIs(found, expected, value)

    def test_each_kind(self):
        for value in LEAVES:
            self.check(value, True)
            self.check(("list", (value, value)), True)
            self.check(("dict", ((key("A"), value), ((), value))), True)
            self.check(("stream", ((key("A"), value),), (0, 255)), True)
        for value in (("list", ()), ("dict", ()), ("stream", (), ())):
            self.check(value, True)

    def test_bounds(self):
        for value in (
            ("bool", 2), ("bool", -1), ("int", 2147483648), ("int", -2147483648), ("ref", 0), ("ref", -1),
            ("ref", 10000), ("name", (256,)), ("name", (-1,)), ("text", (0, 256)), ("stream", (), (256,)),
            ("dict", (((256,), NONE),)),
        ):
            self.check(value, False)

    def test_bools_in_the_place_of_integers(self):
        for value in (
            ("bool", True), ("bool", False), ("int", True), ("ref", True), ("name", (True,)), ("text", (False,)),
            ("stream", (), (True,)), ("dict", (((True,), NONE),)),
        ):
            self.check(value, False)
            self.check(("list", (value,)), False)

    def test_lists_in_the_place_of_tuples(self):
        for value in (
            ["none"], ["int", 5], ("name", [65]), ("text", []), ("list", []), ("list", ([],)), ("list", (["none"],)),
            ("dict", []), ("dict", ([key("A"), NONE],)), ("dict", (([65], NONE),)), ("dict", ((key("A"), ["none"]),)),
            ("stream", [], ()), ("stream", (), []),
        ):
            self.check(value, False)

    def test_wrong_lengths(self):
        for value in (
            (), ("none", 0), ("bool",), ("bool", 0, 0), ("int",), ("int", 1, 2), ("name",), ("text",), ("text", (), ()),
            ("ref",), ("list",), ("list", (), ()), ("dict",), ("dict", (), ()), ("stream", ()), ("stream", (), (), ()),
            ("dict", ((key("A"),),)), ("dict", ((key("A"), NONE, NONE),)), ("dict", ((),)),
            ("stream", ((key("A"),),), ()),
        ):
            self.check(value, False)

    def test_values_of_any_kind(self):
        for value in (
            None, 0, 5, True, "none", "", "list", b"none", [], {}, set(), 1.5, object(), ("other", 1), ("None",),
            (None,), (5,), (("none",),), ([],), ({},), ("int", 1.0), ("int", "1"), ("int", None), ("bool", 0.0),
            ("name", "A"), ("name", b"A"), ("text", (65.0,)), ("text", ("A",)), ("text", None), ("ref", "1"),
            ("list", "ab"), ("list", NONE), ("list", (5,)), ("dict", {}), ("dict", ((5, NONE),)),
            ("dict", (("A", NONE),)), ("dict", (5,)), ("dict", ("ab",)), ("dict", ((((65,),), NONE),)),
            ("stream", (), b""), ("stream", (), None), (b"none",),
        ):
            self.check(value, False)
            self.check(("list", (value,)), False)
            self.check(("dict", ((key("A"), value),)), False)

    def test_keys_twice(self):
        pairs = ((key("A"), NONE), (key("B"), NONE))
        twice = pairs + ((key("A"), ("int", 1)),)
        self.check(("dict", pairs), True)
        self.check(("stream", pairs, ()), True)
        self.check(("dict", twice), False)
        self.check(("stream", twice, ()), False)
        self.check(("list", (("dict", twice),)), False)
        self.check(("dict", (((), NONE), ((), NONE))), False)

    def test_depth_16_and_17(self):
        for kind in ("list", "dict", "stream"):
            for inner in (None, NONE, ("text", (1,))):
                self.check(nested(kind, 16, inner), True)
                self.check(nested(kind, 17, inner), False)
            for inner in ("list", "dict", "stream"):
                self.check(nested(kind, 15, nested(inner, 1)), True)
                self.check(nested(kind, 16, nested(inner, 1)), False)

    def test_values_nested_up_to_100_deep(self):
        for kind in ("list", "dict", "stream"):
            self.check(nested(kind, 100, NONE), False)
        lists = tuples = 5
        for _ in range(100):
            lists = [lists]
            tuples = (tuples,)
        for value in (lists, tuples):
            self.check(value, False)
            for part in (value, (value,), ((value, NONE),)):
                for kind in ("list", "dict", "text", "int"):
                    self.check((kind, part), False)

    def test_copies(self):
        check_copies(self, is_value, ("list", (NONE, [1, [2]])))
        check_copies(self, is_value, dict_of(A=NONE))


class IsBook(unittest.TestCase):
    def check(self, book, expected):
        self.assertIs(is_book(book), expected, book)

    def test_books(self):
        self.check((((1, NONE),), 1), True)
        self.check((((1, NONE),), 0), True)
        self.check((((1, NONE), (2, ("ref", 7)), (9999, nested("list", 16))), 9999), True)

    def test_no_objects(self):
        self.check(((), 0), False)
        self.check(((), 1), False)

    def test_numbers_out_of_order(self):
        self.check((((2, NONE), (1, NONE)), 1), False)
        self.check((((1, NONE), (3, NONE), (2, NONE)), 1), False)
        self.check((((1, NONE), (1, NONE)), 1), False)

    def test_numbers_out_of_bounds(self):
        for number in (0, -1, 10000, True, 1.0, "1", None, (1,)):
            self.check((((number, NONE),), 1), False)
            self.check((((number, NONE),), 0), False)

    def test_a_root_that_is_not_there(self):
        for root in (2, 9999, -1, 10000, True, False, None, "1", 1.0, (1,)):
            self.check((((1, NONE), (3, NONE)), root), False)

    def test_the_root_0(self):
        pages = dict_of(A=NONE, Pages=NONE)
        self.check((((1, pages),), 0), False)
        self.check((((1, pages),), 1), True)
        self.check((((1, NONE), (2, pages)), 0), False)
        self.check((((1, NONE), (2, pages)), 1), True)
        self.check((((1, ("stream", pages[1], ())),), 0), True)
        self.check((((1, ("list", (pages,))),), 0), True)
        self.check((((1, dict_of(A=pages)),), 0), True)
        self.check((((1, dict_of(pages=NONE, Page=NONE)),), 0), True)

    def test_values_that_are_not_sound(self):
        for value in (("int", True), nested("list", 17), None, 5, [], ("none", 1)):
            self.check((((1, value),), 1), False)
            self.check((((1, NONE), (2, value)), 1), False)
            self.check((((1, value),), 0), False)

    def test_other_forms(self):
        for book in (
            None, 5, "book", (), [], ((1, NONE),), (((1, NONE),),), (((1, NONE),), 1, 1), ([(1, NONE)], 1),
            [((1, NONE),), 1], (([1, NONE],), 1), (((1, NONE, 0),), 1), (((1,),), 1), ((5,), 1), ("ab", 1), ({}, 0),
            (None, 0),
        ):
            self.check(book, False)

    def test_nested_up_to_100_deep(self):
        self.check((((1, nested("dict", 100)),), 1), False)
        deep = 5
        for _ in range(100):
            deep = (deep, deep)
        for book in (deep, (deep, 1), ((deep,), 1), (((1, NONE),), deep), ((deep, deep), 0)):
            self.assertIs(is_book(book), False)

    def test_copies(self):
        check_copies(self, is_book, (((1, NONE), (2, [1])), 1))


class FindAndGet(unittest.TestCase):
    def test_find(self):
        for many in range(1, 9):
            book = (tuple((3 * number, ("int", number)) for number in range(1, many + 1)), 3)
            for number in range(1, 3 * many + 5):
                there = number % 3 == 0 and number <= 3 * many
                self.assertEqual(find(book, number), ("int", number // 3) if there else None)
        book = (((9999, NONE),), 0)
        self.assertEqual(find(book, 9999), NONE)
        self.assertIsNone(find(book, 1))
        self.assertIsNone(find(book, 0))

    def test_get(self):
        pairs = ((key("A"), ("int", 1)), (key("Ab"), NONE), ((), ("int", 3)), ((200,), ("int", 4)))
        for value in (("dict", pairs), ("stream", pairs, (65,))):
            self.assertEqual(get(value, "A"), ("int", 1))
            self.assertEqual(get(value, "Ab"), NONE)
            self.assertEqual(get(value, ""), ("int", 3))
            for name in ("a", "b", "AB", "Abc", "B"):
                self.assertIsNone(get(value, name))
        self.assertIsNone(get(("dict", ()), "A"))

    def test_get_of_other_values(self):
        for value in LEAVES + [("list", (dict_of(A=NONE),)), ("list", ((key("A"), NONE),))]:
            self.assertIsNone(get(value, "A"))

    def test_a_reference_is_not_followed(self):
        self.assertEqual(get(dict_of(A=("ref", 3)), "A"), ("ref", 3))

    def test_copies(self):
        check_copies(self, find, (((1, NONE),), 1), 1)
        check_copies(self, get, dict_of(A=NONE), "A")


def chain(many):
    return chained(many), 0


class Follow(unittest.TestCase):
    def test_no_reference(self):
        for value in LEAVES[:-2] + [("list", (("ref", 1),)), dict_of(A=("ref", 1))]:
            self.assertEqual(follow(chain(3), value, 5), (value, 5))
            self.assertEqual(follow(chain(3), value, 0), (value, 0))

    def test_none(self):
        self.assertEqual(follow(chain(3), None, 5), (None, 5))
        self.assertEqual(follow(chain(3), None, 0), (None, 0))

    def test_references(self):
        self.assertEqual(follow(chain(3), ("ref", 4), 9), (("int", 7), 8))
        self.assertEqual(follow(chain(3), ("ref", 1), 9), (("int", 7), 5))

    def test_chains_of_63_64_and_65(self):
        for many in (63, 64, 65, 66):
            book = chain(many - 1)
            found = follow(book, ("ref", 1), 100)
            self.assertEqual(found, (("int", 7), 100 - many) if many <= 64 else (None, 36))

    def test_a_ring(self):
        ring = (((1, ("ref", 2)), (2, ("ref", 1))), 0)
        self.assertEqual(follow(ring, ("ref", 1), 100), (None, 36))
        self.assertEqual(follow(ring, ("ref", 1), 64), (None, 0))
        self.assertEqual(follow(ring, ("ref", 1), 63), (None, 0))
        self.assertEqual(follow((((5, ("ref", 5)),), 5), ("ref", 5), 65), (None, 1))

    def test_a_reference_to_nothing(self):
        self.assertEqual(follow(chain(0), ("ref", 2), 9), (None, 8))
        book = (((1, ("ref", 3)), (2, NONE)), 0)
        self.assertEqual(follow(book, ("ref", 1), 9), (None, 7))

    def test_a_reference_to_nothing_at_the_last_step(self):
        objects, root = chain(64)
        book = (objects[:64], root)
        self.assertEqual(follow(book, ("ref", 2), 100), (None, 36))
        self.assertEqual(follow(book, ("ref", 1), 100), (None, 36))

    def test_work(self):
        for many in (1, 2, 64):
            book = chain(many - 1)
            self.assertEqual(follow(book, ("ref", 1), many), (("int", 7), 0))
            self.assertEqual(follow(book, ("ref", 1), many - 1), (None, 0))
            self.assertEqual(follow(book, ("ref", 1), 0), (None, 0))

    def test_copies(self):
        check_copies(self, follow, chain(3), ("ref", 1), 9)


class Reach(unittest.TestCase):
    def test_the_root_0(self):
        self.assertEqual(reach((((1, NONE), (2, ("ref", 1))), 0)), [])

    def test_the_root_alone(self):
        self.assertEqual(reach((((1, NONE), (2, ("ref", 1))), 1)), [1])
        self.assertEqual(reach((((1, ("ref", 1)), (2, NONE)), 1)), [1])

    def test_it_is_ascending(self):
        book = (((1, NONE), (2, ("ref", 9)), (5, ("list", (("ref", 2), ("ref", 1)))), (9, NONE)), 5)
        self.assertEqual(reach(book), [1, 2, 5, 9])

    def test_rings(self):
        book = (((1, ("ref", 2)), (2, ("ref", 3)), (3, ("list", (("ref", 1), ("ref", 3)))), (4, ("ref", 1))), 2)
        self.assertEqual(reach(book), [1, 2, 3])

    def test_objects_that_are_not_there(self):
        book = (((1, ("list", (("ref", 7), ("ref", 3), ("ref", 9999)))), (3, ("ref", 8))), 1)
        self.assertEqual(reach(book), [1, 3])

    def test_nested_values(self):
        inner = ("stream", ((key("A"), NONE), (key("B"), ("list", (dict_of(C=("ref", 4)), ("ref", 6))))), (7,))
        book = (((1, dict_of(X=("list", (inner,)), Y=("ref", 3))),) + tuple((n, NONE) for n in range(2, 9)), 1)
        self.assertEqual(reach(book), [1, 3, 4, 6])
        for kind in ("list", "dict", "stream"):
            self.assertEqual(reach((((1, nested(kind, 16, ("ref", 2))), (2, NONE)), 1)), [1, 2])

    def test_integers_are_no_references(self):
        self.assertEqual(reach((((1, ("list", (("int", 2), ("text", (2,))))), (2, NONE)), 1)), [1])

    def test_a_long_chain(self):
        objects = [(number, ("ref", number + 1)) for number in range(1, 9999)] + [(9999, ("ref", 1))]
        self.assertEqual(reach((tuple(objects), 5000)), list(range(1, 10000)))

    def test_drawn_books(self):
        source = drawn(18)
        for _ in range(200):
            leads = {number: [source.randint(1, 15) for _ in range(source.randint(0, 2))] for number in range(1, 13)}
            objects = tuple((number, ("list", tuple(("ref", to) for to in leads[number]))) for number in leads)
            expected = {1}
            for _ in range(12):
                expected |= {to for number in expected for to in leads[number] if to in leads}
            self.assertEqual(reach((objects, 1)), sorted(expected))

    def test_copies(self):
        check_copies(self, reach, (((1, ("ref", 2)), (2, NONE)), 1))


if __name__ == "__main__":
    unittest.main()
