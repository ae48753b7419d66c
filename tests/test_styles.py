import unittest

from stillroom.styles import colour_of, number_of, style_of
from folios import NONE, chained, dict_of, items, name, number, stream, text
from support import check_copies

PLAIN = (None, 4, 0, -1, "Left", 0, 0)
PARTS = ("font", "size", "color", "back", "align", "indent", "gap")

NO_NUMBERS = [
    None, NONE, ("bool", 0), ("bool", 1), name(b"5"), text(b"5"), ("ref", 5), items(number(5)),
    dict_of((b"A", number(5))), stream(b"5", (b"A", number(5))),
]


class Numbers(unittest.TestCase):
    def check(self, value, low, high, expected):
        for other in (-7, 0, 3, 1000, None):
            self.assertEqual(number_of(value, low, high, other), expected)

    def test_integers(self):
        for found in (1, 2, 7, 8):
            self.check(number(found), 1, 8, found)
        for found in (-1048576, -5, 0, 5, 1048576):
            self.check(number(found), -1048576, 1048576, found)

    def test_beyond_the_bounds(self):
        for found in (0, -1, -2147483647):
            self.check(number(found), 1, 8, 1)
        for found in (9, 10, 2147483647):
            self.check(number(found), 1, 8, 8)
        self.check(number(3), 5, 5, 5)
        self.check(number(7), 5, 5, 5)

    def test_no_integers(self):
        for value in NO_NUMBERS:
            for other in (-7, 0, 3, 1000, None):
                self.assertEqual(number_of(value, 1, 8, other), other)

    def test_colours(self):
        for found in (0, 1, 16777214, 16777215):
            for other in (-1, 0, 5):
                self.assertEqual(colour_of(number(found), other), found)

    def test_integers_that_are_no_colours(self):
        for found in (-1, -16777215, 16777216, 2147483647):
            for other in (-1, 0, 5):
                self.assertEqual(colour_of(number(found), other), other)

    def test_values_that_are_no_colours(self):
        for value in NO_NUMBERS:
            for other in (-1, 0, 5):
                self.assertEqual(colour_of(value, other), other)

    def test_copies(self):
        check_copies(self, number_of, number(5), 1, 8, 4)
        check_copies(self, colour_of, number(5), -1)


def styled(*styles, more=()):
    """A book whose root has these styles."""
    return ((1, dict_of((b"Styles", dict_of(*styles)))),) + tuple(more), 1


class Styles(unittest.TestCase):
    def check(self, book, word, **expected):
        """The style of the name: the plain one but for what is given."""
        style = tuple(expected.get(part, plain) for part, plain in zip(PARTS, PLAIN))
        self.assertEqual(style_of(book, tuple(word)), style)

    def check_property(self, key, value, **expected):
        self.check(styled((b"S", dict_of((key, value)))), b"S", **expected)
        # A parent has it in its place.
        book = styled((b"S", dict_of((b"Parent", name(b"P")), (key, NONE))), (b"P", dict_of((key, value))))
        self.check(book, b"S", **expected)
        book = styled((b"S", dict_of((b"Parent", name(b"P")))), (b"P", dict_of((key, value))))
        self.check(book, b"S", **expected)


class Properties(Styles):
    def test_all_of_them(self):
        style = dict_of(
            (b"Font", name(b"F")), (b"Size", number(7)), (b"Color", number(5)), (b"Back", number(6)),
            (b"Align", name(b"Middle")), (b"Indent", number(3)), (b"Gap", number(9)),
        )
        self.assertEqual(style_of(styled((b"S", style)), (83,)), ((70,), 7, 5, 6, "Middle", 3, 9))

    def test_none_of_them(self):
        self.check(styled((b"S", dict_of())), b"S")
        self.check(styled((b"S", dict_of((b"font", name(b"F")), (b"", number(2)), (b"Colour", number(2))))), b"S")

    def test_fonts(self):
        for found in ((), (70,), (0, 255, 37)):
            self.check_property(b"Font", name(found), font=found)
        for value in (NONE, text(b"F"), number(5), items(name(b"F")), dict_of()):
            self.check_property(b"Font", value)

    def test_sizes(self):
        for found, expected in ((1, 1), (8, 8), (5, 5), (0, 1), (-9, 1), (9, 8), (2147483647, 8)):
            self.check_property(b"Size", number(found), size=expected)
        for value in NO_NUMBERS[1:]:
            self.check_property(b"Size", value)

    def test_colors(self):
        for key, part in ((b"Color", "color"), (b"Back", "back")):
            for found in (0, 1, 16777215):
                self.check_property(key, number(found), **{part: found})
            for value in NO_NUMBERS[1:] + [number(-1), number(16777216)]:
                self.check_property(key, value)

    def test_aligns(self):
        for word in ("Left", "Middle", "Right"):
            self.check_property(b"Align", name(word.encode()), align=word)
        for value in (name(b""), name(b"left"), name(b"Center"), name(b"Rights"), text(b"Right"), number(1), NONE):
            self.check_property(b"Align", value)

    def test_indents_and_gaps(self):
        for key, part in ((b"Indent", "indent"), (b"Gap", "gap")):
            for found, expected in ((0, 0), (1, 1), (64, 64), (65, 64), (-1, 0), (2147483647, 64), (-2147483647, 0)):
                self.check_property(key, number(found), **{part: expected})
            for value in NO_NUMBERS[1:]:
                self.check_property(key, value)

    def test_a_wrong_form_above_the_right_one(self):
        for key, part, wrong, right, expected in (
            (b"Font", "font", text(b"F"), name(b"G"), (71,)), (b"Size", "size", text(b"1"), number(2), 2),
            (b"Color", "color", number(16777216), number(2), 2), (b"Color", "color", number(-1), number(2), 2),
            (b"Back", "back", number(-1), number(2), 2), (b"Back", "back", name(b"x"), number(2), 2),
            (b"Align", "align", name(b"Top"), name(b"Right"), "Right"), (b"Indent", "indent", NONE, number(2), 2),
            (b"Align", "align", text(b"Middle"), name(b"Right"), "Right"), (b"Gap", "gap", ("bool", 1), number(2), 2),
        ):
            for above in (wrong, ("ref", 99)):
                styles = [
                    (b"A", dict_of((b"Parent", name(b"B")), (key, above))), (b"B", dict_of((b"Parent", name(b"C")))),
                    (b"C", dict_of((key, right), (b"Parent", name(b"D")))), (b"D", dict_of((key, above))),
                ]
                self.check(styled(*styles), b"A", **{part: expected})
                self.check(styled(*styles), b"C", **{part: expected})
                self.check(styled(*styles), b"D")

    def test_the_right_form_above_another_one(self):
        above = [(b"Parent", name(b"B")), (b"Size", number(99)), (b"Align", name(b"Left")), (b"Font", name(b""))]
        below = [(b"Size", number(2)), (b"Align", name(b"Right")), (b"Font", name(b"F")), (b"Gap", number(1))]
        styles = [(b"A", dict_of(*above)), (b"B", dict_of(*below))]
        self.check(styled(*styles), b"A", size=8, font=(), gap=1)
        self.check(styled(*styles), b"B", size=2, align="Right", font=(70,), gap=1)


class Parents(Styles):
    def test_names(self):
        styles = [(b"S", dict_of((b"Size", number(2)))), (b"s", dict_of((b"Size", number(3)))),
                  ([0, 37, 255], dict_of((b"Size", number(5)))), (b"", dict_of((b"Size", number(6))))]
        for word, size in ((b"S", 2), (b"s", 3), ([0, 37, 255], 5), (b"", 6)):
            self.check(styled(*styles), word, size=size)

    def test_a_style_that_is_not_there(self):
        styles = [(b"S", dict_of((b"Size", number(2))))]
        for word in (b"", b"T", b"s", b"SS"):
            self.check(styled(*styles), word)
        self.check(styled(), b"S")

    def test_styles_that_are_no_dicts(self):
        size = (b"Size", number(2))
        for value in (NONE, number(2), items(dict_of(size)), stream(b"", size), ("ref", 9)):
            self.check(styled((b"S", value)), b"S")
            book = styled((b"A", dict_of((b"Parent", name(b"S")), (b"Gap", number(5)))), (b"S", value))
            self.check(book, b"A", gap=5)

    def test_parents_in_order(self):
        styles = [
            (b"A", dict_of((b"Parent", name(b"B")), (b"Size", number(1)))),
            (b"B", dict_of((b"Parent", name(b"C")), (b"Size", number(2)), (b"Gap", number(2)))),
            (b"C", dict_of((b"Size", number(3)), (b"Gap", number(3)), (b"Indent", number(3)))),
        ]
        self.check(styled(*styles), b"A", size=1, gap=2, indent=3)
        self.check(styled(*styles), b"B", size=2, gap=2, indent=3)
        self.check(styled(*styles), b"C", size=3, gap=3, indent=3)

    def test_a_parent_that_is_not_there(self):
        self.check(styled((b"A", dict_of((b"Parent", name(b"B")), (b"Size", number(1))))), b"A", size=1)

    def test_parents_that_are_no_names(self):
        for value in (NONE, text(b"B"), number(1), items(name(b"B")), dict_of((b"Size", number(2))), ("ref", 99)):
            styles = [(b"A", dict_of((b"Parent", value))), (b"B", dict_of((b"Size", number(2))))]
            self.check(styled(*styles), b"A")

    def test_an_empty_name_as_a_parent(self):
        styles = [(b"A", dict_of((b"Parent", name(b"")))), (b"", dict_of((b"Size", number(2))))]
        self.check(styled(*styles), b"A")

    def test_the_empty_name_with_a_parent(self):
        parent = dict_of((b"Size", number(2)), (b"Parent", name(b"")))
        styles = [(b"", dict_of((b"Parent", name(b"A")))), (b"A", parent)]
        self.check(styled(*styles), b"", size=2)

    def test_a_ring_of_parents(self):
        self.check(styled((b"A", dict_of((b"Parent", name(b"A")), (b"Gap", number(2))))), b"A", gap=2)
        styles = [
            (b"A", dict_of((b"Parent", name(b"B")), (b"Size", number(1)))),
            (b"B", dict_of((b"Parent", name(b"C")), (b"Gap", number(2)))),
            (b"C", dict_of((b"Parent", name(b"B")), (b"Size", number(3)), (b"Gap", number(3)))),
        ]
        self.check(styled(*styles), b"A", size=1, gap=2)
        self.check(styled(*styles), b"B", size=3, gap=2)
        self.check(styled(*styles), b"C", size=3, gap=3)

    def test_eight_and_nine_dicts(self):
        for count in (7, 8, 9, 10):
            styles = [([at], dict_of((b"Parent", name([at + 1])))) for at in range(1, count)]
            styles.append(([count], dict_of((b"Size", number(2)))))
            self.check(styled(*styles), [1], **({"size": 2} if count <= 8 else {}))
            self.check(styled(*styles), [2], **({"size": 2} if count <= 9 else {}))


class Roots(Styles):
    style = dict_of((b"S", dict_of((b"Size", number(2)))))

    def test_roots(self):
        root = dict_of((b"Styles", self.style))
        self.check((((3, NONE), (5, root)), 5), b"S", size=2)
        self.check((((3, NONE), (5, root)), 3), b"S")

    def test_a_root_that_is_a_stream(self):
        self.check((((5, stream(b"", (b"Styles", self.style))),), 5), b"S", size=2)

    def test_a_root_that_is_no_dict(self):
        for value in (NONE, number(2), items(self.style), text(b"Styles"), ("ref", 5), ("ref", 9)):
            self.check((((5, value),), 5), b"S")

    def test_the_root_0(self):
        root = dict_of((b"Styles", self.style))
        self.check((((5, root),), 0), b"S")

    def test_a_root_without_styles(self):
        for value in (NONE, number(2), items(self.style), ("ref", 9)):
            self.check((((5, dict_of((b"Styles", value))),), 5), b"S")
        self.check((((5, dict_of((b"styles", self.style))),), 5), b"S")
        self.check((((5, self.style),), 5), b"S")

    def test_styles_in_a_stream(self):
        styles = ("stream", self.style[1], ())
        self.check((((5, dict_of((b"Styles", styles))),), 5), b"S", size=2)


class References(Styles):
    def test_each_place(self):
        objects = (
            (1, ("ref", 2)), (2, dict_of((b"Styles", ("ref", 3)))), (3, ("ref", 4)),
            (4, dict_of((b"A", ("ref", 5)), (b"B", ("ref", 6)))),
            (5, dict_of((b"Parent", ("ref", 7)), (b"Size", ("ref", 8)))),
            (6, dict_of((b"Font", ("ref", 9)), (b"Align", ("ref", 10)), (b"Color", ("ref", 8)), (b"Gap", ("ref", 11)))),
            (7, name(b"B")), (8, number(6)), (9, name(b"F")), (10, name(b"Right")), (11, ("ref", 8)),
        )
        self.check((objects, 1), b"A", font=(70,), size=6, color=6, align="Right", gap=6)

    def test_references_to_nothing(self):
        above = dict_of((b"Size", ("ref", 99)), (b"Parent", name(b"B")))
        self.check(styled((b"A", above), (b"B", dict_of((b"Size", number(3))))), b"A", size=3)
        self.check(styled((b"A", ("ref", 99))), b"A")

    def test_chains_of_64_and_65(self):
        for steps in (63, 64, 65, 66):
            root = dict_of((b"Styles", dict_of((b"S", dict_of((b"Size", ("ref", 1)))))))
            objects = chained(steps - 1, number(2)) + ((5000, root),)
            self.check((objects, 5000), b"S", **({"size": 2} if steps <= 64 else {}))
            # Looking at the root object's value takes one step less.
            objects = chained(steps, dict_of((b"Styles", dict_of((b"S", dict_of((b"Size", number(2))))))))
            self.check((objects, 1), b"S", **({"size": 2} if steps <= 64 else {}))

    def test_copies(self):
        book = styled((b"A", dict_of((b"Size", number(2)), (b"Font", name(b"F")))))
        check_copies(self, style_of, book, (65,))


if __name__ == "__main__":
    unittest.main()
