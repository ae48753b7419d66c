"""What a font is, finding its glyphs, and the plain font (points 81, 82 and 87)."""

import unittest

from stillroom.fonts import advance, is_font, lookup, outline, plain_font
from support import check_copies

STEPS = (("move", 0, 0), ("line", 1, 2), ("curve", 1, 2, 3, 4), ("use", 0, 1, 2))
GLYPH = (16, STEPS)


def font(*glyphs, ranges=()):
    return glyphs, ranges


class IsFont(unittest.TestCase):
    def check(self, value, expected):
        self.assertIs(is_font(value), expected, value)

    def check_step(self, step, expected):
        self.check(font((0, (step,))), expected)
        self.check(font(GLYPH, (0, STEPS + (step,)), ranges=((1, 2, 3),)), expected)

    def check_range(self, part, expected):
        self.check(font(GLYPH, ranges=(part,)), expected)
        self.check(font(GLYPH, ranges=((1, 2, 3), part)), expected)

    def test_fonts(self):
        self.check(font((0, ())), True)
        self.check(font(GLYPH), True)
        self.check(font(GLYPH, (0, ()), ranges=((1, 2, 3), (5, 4, 0))), True)
        self.check(plain_font(), True)

    def test_coordinates(self):
        for number, expected in ((-128, True), (127, True), (-129, False), (128, False), (True, False), (1.0, False),
                                 ("1", False), (None, False)):
            for step in (
                ("move", number, 0), ("move", 0, number), ("line", number, 0), ("line", 0, number),
                ("curve", number, 0, 0, 0), ("curve", 0, number, 0, 0), ("curve", 0, 0, number, 0),
                ("curve", 0, 0, 0, number), ("use", 0, number, 0), ("use", 0, 0, number),
            ):
                self.check_step(step, expected)

    def test_advances(self):
        for number, expected in ((-128, True), (127, True), (-129, False), (128, False), (False, False), (None, False)):
            self.check(font((number, ())), expected)
            self.check(font(GLYPH, (number, STEPS)), expected)

    def test_the_glyph_of_a_use(self):
        for number, expected in ((0, True), (65535, True), (-1, False), (65536, False), (True, False), ("0", False)):
            self.check_step(("use", number, 0, 0), expected)

    def test_steps(self):
        for step in (
            (), ("move",), ("move", 0), ("move", 0, 0, 0), ("line", 0), ("line", 0, 0, 0), ("curve", 0, 0),
            ("curve", 0, 0, 0), ("curve", 0, 0, 0, 0, 0), ("use", 0, 0), ("use", 0, 0, 0, 0), ("use",),
            ("jump", 0, 0), ("", 0, 0), ("Move", 0, 0), (1, 0, 0), (None, 0, 0), (("move",), 0, 0), (b"move", 0, 0),
            ["move", 0, 0], "move", None, 5, ("move", (0, 0)), {}, (["move"], 0, 0), ({}, 0, 0),
        ):
            self.check_step(step, False)

    def test_1000_and_1001_steps(self):
        self.check(font((0, STEPS * 250)), True)
        self.check(font((0, STEPS * 250 + STEPS[:1])), False)

    def test_glyphs(self):
        for glyph in (
            (), (0,), (0, (), 0), [0, ()], (0, []), (0, None), (0, 5), 5, None, "ab", ((), 0), (0, STEPS[0]), (0, {}),
            (0, [STEPS[0]]),
        ):
            self.check(font(glyph), False)
            self.check(font(GLYPH, glyph), False)

    def test_1_256_and_257_glyphs(self):
        self.check(font(), False)
        self.check(font(*[GLYPH] * 256), True)
        self.check(font(*[GLYPH] * 257), False)

    def test_runes(self):
        for rune, expected in ((0, True), (1114111, True), (55296, True), (-1, False), (1114112, False), (True, False),
                               (None, False), ("A", False)):
            self.check_range((rune, 5, 0), expected)
            self.check_range((5, rune, 0), expected)

    def test_a_range_whose_second_rune_is_less(self):
        self.check_range((9, 8, 0), True)
        self.check_range((1114111, 0, 65535), True)

    def test_the_glyph_of_a_range(self):
        for number, expected in ((0, True), (65535, True), (-1, False), (65536, False), (True, False), (None, False)):
            self.check_range((1, 2, number), expected)

    def test_ranges(self):
        for part in ((), (1, 2), (1, 2, 3, 4), [1, 2, 3], 5, None, "abc", ((1, 2, 3),)):
            self.check_range(part, False)

    def test_255_and_256_ranges(self):
        self.check(font(GLYPH, ranges=((1, 2, 3),) * 255), True)
        self.check(font(GLYPH, ranges=((1, 2, 3),) * 256), False)

    def test_other_forms(self):
        for value in (
            None, 5, "font", (), [], {}, (GLYPH,), ((GLYPH,),), ((GLYPH,), (), ()), [(GLYPH,), ()], ([GLYPH], ()),
            ((GLYPH,), []), ((GLYPH,), None), (None, ()), ((), ()), (GLYPH, ()), ((GLYPH,), 5), "ab",
        ):
            self.check(value, False)

    def test_deep_values(self):
        lists = tuples = 5
        for _ in range(100):
            lists = [lists]
            tuples = (tuples, tuples)
        for deep in (lists, tuples):
            for value in (deep, (deep, ()), ((deep,), ()), ((GLYPH,), deep), ((GLYPH,), (deep,)), ((deep, deep), deep)):
                self.check(value, False)
            self.check_step(deep, False)

    def test_copies(self):
        check_copies(self, is_font, font(GLYPH, ranges=((1, 2, 3),)))
        check_copies(self, is_font, ([GLYPH], [1, [2]]))


class Lookup(unittest.TestCase):
    glyphs = ((5, ()), (-6, ()), (7, ()), (127, ()))

    def check(self, ranges, rune, expected):
        self.assertEqual(lookup((self.glyphs, ranges), rune), expected)

    def test_example(self):
        self.assertEqual(lookup(plain_font(), 65), 33)

    def test_one_range(self):
        ranges = ((65, 67, 1),)
        for rune, expected in ((64, 0), (65, 1), (66, 2), (67, 3), (68, 0), (0, 0), (1114111, 0)):
            self.check(ranges, rune, expected)

    def test_several_ranges(self):
        ranges = ((10, 12, 0), (11, 20, 3), (30, 30, 2), (12, 40, 1))
        for rune, expected in ((10, 0), (11, 1), (12, 2), (13, 0), (30, 2), (31, 0)):
            self.check(ranges, rune, expected)
        # The first range counts, even if it leads beyond the glyphs.
        self.check(((10, 20, 3), (11, 20, 1)), 11, 0)
        self.check(((11, 20, 1), (10, 20, 3)), 11, 1)

    def test_no_range(self):
        self.check((), 65, 0)
        self.check(((1, 2, 3), (70, 80, 1)), 65, 0)

    def test_a_range_whose_second_rune_is_less(self):
        for rune in (64, 65, 66, 67, 68):
            self.check(((67, 65, 1),), rune, 0)
            self.check(((67, 65, 1), (0, 100, 2)), rune, 0 if rune > 1 else 2)
        self.check(((67, 65, 1), (66, 66, 2)), 66, 2)

    def test_glyphs_beyond_those_that_are_there(self):
        self.check(((65, 70, 2),), 66, 3)
        self.check(((65, 70, 2),), 67, 0)
        self.check(((65, 70, 4),), 65, 0)
        self.check(((0, 1114111, 65535),), 1114111, 0)
        self.check(((0, 1114111, 0),), 3, 3)
        self.check(((0, 1114111, 0),), 4, 0)

    def test_advances(self):
        for glyph, expected in ((0, 5), (1, -6), (2, 7), (3, 127), (4, 0), (65535, 0), (-1, 0)):
            self.assertEqual(advance((self.glyphs, ()), glyph), expected)

    def test_copies(self):
        check_copies(self, lookup, (self.glyphs, ((65, 67, 1),)), 66)
        check_copies(self, advance, (self.glyphs, ((65, 67, 1),)), 1)


class PlainFont(unittest.TestCase):
    def corners(self, glyph):
        outlines, left = outline(plain_font(), glyph, 100)
        # All outlines are a move and three lines.
        self.assertEqual(100 - left, 4 * len(outlines))
        return outlines

    def test_glyphs_and_ranges(self):
        glyphs, ranges = plain_font()
        self.assertEqual(len(glyphs), 96)
        self.assertEqual(ranges, ((33, 126, 1), (32, 32, 95)))
        for _, steps in glyphs:
            words = [step[0] for step in steps]
            self.assertEqual(words, ["move", "line", "line", "line"] * (len(steps) // 4))

    def test_the_glyph_0(self):
        self.assertEqual(self.corners(0), (
            ((0, 0), (12, 0), (12, 20), (0, 20)), ((4, 4), (8, 4), (8, 16), (4, 16)),
        ))
        self.assertEqual(advance(plain_font(), 0), 16)

    def test_each_mark(self):
        found = []
        for rune in range(33, 127):
            glyph = lookup(plain_font(), rune)
            self.assertEqual(glyph, rune - 32)
            expected = []
            for k in range(7):
                if (rune - 32) // 2 ** k % 2:
                    x, y = 4 * (k % 3), 4 * (k // 3)
                    expected.append(((x, y), (x + 4, y), (x + 4, y + 4), (x, y + 4)))
            self.assertEqual(self.corners(glyph), tuple(expected))
            self.assertEqual(advance(plain_font(), glyph), 16)
            found.append(self.corners(glyph))
        self.assertEqual(len(set(found)), 94)

    def test_one_mark(self):
        # 65 - 32 is 33: the bits 0 and 5.
        self.assertEqual(self.corners(33), (((0, 0), (4, 0), (4, 4), (0, 4)), ((8, 4), (12, 4), (12, 8), (8, 8))))

    def test_the_space(self):
        self.assertEqual(lookup(plain_font(), 32), 95)
        self.assertEqual(plain_font()[0][95], (8, ()))

    def test_other_runes(self):
        for rune in (0, 10, 31, 127, 128, 65533, 1114111):
            self.assertEqual(lookup(plain_font(), rune), 0)

    def test_copies(self):
        check_copies(self, plain_font)


if __name__ == "__main__":
    unittest.main()
