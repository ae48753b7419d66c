"""Writing and reading fonts (points 85 and 86)."""

import unittest

from stillroom.errors import Malformed
from stillroom.fonts import is_font, plain_font, read_font, write_font
from support import changed, check_copies, check_work, drawn, drawn_bytes, low

SIGN = list(b"FNT1\n")


def range_bytes(first, last, glyph):
    return low(first, 3) + low(last, 3) + low(glyph, 2)


def font_bytes(*glyphs, ranges=(), range_count=None, count=None):
    """The bytes of a font whose glyphs have these bytes."""
    found = SIGN + [len(ranges) if range_count is None else range_count]
    for part in ranges:
        found += range_bytes(*part)
    found += low(len(glyphs) if count is None else count, 2)
    for glyph in glyphs:
        found += low(len(glyph), 2) + list(glyph)
    return found


def drawn_font(source):
    def coordinates(count):
        return tuple(source.choice((-128, 127, source.randint(-128, 127))) for _ in range(count))

    def step():
        word = source.choice(("move", "line", "curve", "use"))
        if word == "use":
            return (word, source.choice((0, 255, 256, 65535))) + coordinates(2)
        return (word,) + coordinates(4 if word == "curve" else 2)

    glyphs = tuple(
        coordinates(1) + (tuple(step() for _ in range(source.randint(0, 6))),) for _ in range(source.randint(1, 5))
    )
    ranges = tuple(
        (source.randint(0, 1114111), source.choice((0, 1114111, 300)), source.choice((0, 256, 65535)))
        for _ in range(source.randint(0, 3))
    )
    return glyphs, ranges


class Writing(unittest.TestCase):
    def check(self, font, expected):
        self.assertEqual(write_font(font), expected)
        self.assertEqual(read_font(expected, len(expected)), (font, 0))

    def test_the_least_font(self):
        self.check((((0, ()),), ()), list(b"FNT1\n\x00\x01\x00\x01\x00\x00"))

    def test_steps(self):
        glyph = (-2, (("move", 1, -1), ("line", 127, -128), ("curve", 1, 2, 3, -4), ("use", 259, -5, 6)))
        expected = [254, 1, 1, 255, 2, 127, 128, 3, 1, 2, 3, 252, 4, 3, 1, 251, 6]
        self.check(((glyph,), ()), SIGN + [0, 1, 0, 17, 0] + expected)

    def test_advances(self):
        for advance, byte in ((0, 0), (127, 127), (-1, 255), (-128, 128)):
            self.check((((advance, ()),), ()), font_bytes([byte]))

    def test_ranges(self):
        ranges = ((65, 66, 1), (1114111, 0, 65535), (256, 65536, 256))
        expected = [65, 0, 0, 66, 0, 0, 1, 0, 255, 255, 16, 0, 0, 0, 255, 255, 0, 1, 0, 0, 0, 1, 0, 1]
        self.check((((0, ()),), ranges), SIGN + [3] + expected + [1, 0, 1, 0, 0])
        self.check((((0, ()),), ((1, 2, 3),) * 255), font_bytes([0], ranges=((1, 2, 3),) * 255))

    def test_256_glyphs(self):
        glyphs = tuple((at % 128, ()) for at in range(256))
        self.check((glyphs, ()), font_bytes(*[[at % 128] for at in range(256)]))
        self.assertEqual(write_font((glyphs, ()))[6:8], [0, 1])

    def test_1000_steps(self):
        steps = (("curve", 1, 2, 3, 4), ("use", 1, 2, 3)) * 500
        found = write_font((((0, steps), (1, ())), ()))
        self.assertEqual(found[8:10], low(5001, 2))
        self.check((((0, steps), (1, ())), ()), font_bytes([0] + [3, 1, 2, 3, 4, 4, 1, 0, 2, 3] * 500, [1]))

    def test_the_plain_font(self):
        found = write_font(plain_font())
        self.assertEqual(read_font(found, len(found)), (plain_font(), 0))

    def test_drawn_fonts(self):
        source = drawn(42)
        for _ in range(300):
            font = drawn_font(source)
            self.assertTrue(is_font(font))
            found = write_font(font)
            self.assertEqual(read_font(found, len(found) + 3), (font, 3))

    def test_no_font(self):
        glyph = (0, ())
        for value in (
            None, 5, "font", (), [(glyph,), ()], ((), ()), ((glyph,),), ((glyph,) * 257, ()), ((glyph,), ((1, 2),)),
            (((128, ()),), ()), (((0, (("move", 128, 0),)),), ()), (((True, ()),), ()), ((glyph,), ((1114112, 2, 3),)),
            (((0, (("move", 0, 0),) * 1001),), ()), ((glyph,), ((1, 2, 3),) * 256), ((glyph,), []),
        ):
            with self.assertRaises(Malformed, msg=value):
                write_font(value)

    def test_copies(self):
        check_copies(self, write_font, (((0, (("move", 1, 2),)),), ((1, 2, 3),)))


class Reading(unittest.TestCase):
    def check(self, data, *glyphs, ranges=()):
        expected = (glyphs, ranges)
        self.assertTrue(is_font(expected))
        less = check_work(self, lambda left: read_font(data, left), len(data), expected)
        self.assertEqual(less, (None, 0))

    def check_glyph(self, data, advance, *steps):
        """The glyph that some bytes are; another one stands behind it."""
        self.check(font_bytes(data, [5]), (advance, steps), (5, ()))
        self.check(font_bytes(data), (advance, steps))

    def check_fails(self, data):
        """Reading fails, and the work is spent."""
        self.assertEqual(read_font(data, len(data) + 9), (None, 9))
        self.assertEqual(read_font(data, len(data)), (None, 0))
        self.assertEqual(read_font(data, len(data) - 1), (None, 0))

    def test_other_beginnings(self):
        rest = font_bytes([0])[5:]
        for data in ([], SIGN[:4], SIGN[1:] + rest, [0] + SIGN + rest, list(b"FNT2\n") + rest, list(b"FNT1\r") + rest,
                     list(b"fnt1\n") + rest):
            for left in (0, 3, 1000):
                self.assertEqual(read_font(data, left), (None, left))

    def test_nothing_behind_the_beginning(self):
        self.check_fails(SIGN)
        self.check_fails(SIGN + [0])
        self.check_fails(SIGN + [0, 1])
        self.check_fails(SIGN + [0, 0, 0])
        self.check_fails(SIGN + [0, 1, 0])
        self.check_fails(SIGN + [0, 1, 0, 0])

    def test_no_glyphs(self):
        self.check_fails(font_bytes())
        self.check_fails(font_bytes(ranges=((1, 2, 3),)))
        self.check_fails(font_bytes([0], count=0))

    def test_too_little_work(self):
        data = font_bytes([0])
        for left in range(len(data)):
            self.assertEqual(read_font(data, left), (None, 0))

    def test_each_part_broken_off(self):
        data = font_bytes([1, 1, 5, 5], [2], ranges=((1, 2, 3), (4, 5, 6)))
        glyphs = SIGN + [2] + [0] * 16 + [0, 0]
        for size in range(5, len(glyphs) + 2):
            self.check_fails(data[:size])
        ranges = ((1, 2, 3), (4, 5, 6))
        for size, found in (
            (0, ((0, ()),)), (1, ((1, ()),)), (2, ((1, ()),)), (3, ((1, ()),)), (4, ((1, (("move", 5, 5),)),)),
            (5, ((1, (("move", 5, 5),)),)), (6, ((1, (("move", 5, 5),)), (0, ()))),
            (7, ((1, (("move", 5, 5),)), (2, ()))),
        ):
            self.check(data[:len(glyphs) + 2 + size], *found, ranges=ranges)

    def test_ranges_that_are_broken_off(self):
        # The bytes behind look like a number of glyphs and a glyph.
        data = SIGN + [2] + range_bytes(1, 2, 3) + [1, 0, 1, 0, 7]
        self.check_fails(data)
        self.check_fails(SIGN + [255] + range_bytes(1, 2, 3) * 254 + [1, 0, 1, 0, 7, 0, 0])
        self.check(SIGN + [1] + range_bytes(1, 2, 3) + [1, 0, 1, 0, 7], (7, ()), ranges=((1, 2, 3),))

    def test_runes_above_1114111(self):
        for rune in (1114112, 16777215):
            data = font_bytes([0], ranges=((rune, 5, 1), (6, rune, 2), (1114111, 1114110, 3)))
            self.check(data, (0, ()), ranges=((1114111, 5, 1), (6, 1114111, 2), (1114111, 1114110, 3)))

    def test_256_and_more_glyphs(self):
        glyphs = [[at % 128] for at in range(300)]
        expected = tuple((at % 128, ()) for at in range(256))
        self.check(font_bytes(*glyphs[:256]), *expected)
        self.check(font_bytes(*glyphs[:257]), *expected)
        self.check(font_bytes(*glyphs), *expected)
        self.check(font_bytes(*glyphs, count=65535), *expected)

    def test_fewer_and_more_glyphs_than_the_number_says(self):
        self.check(font_bytes([1], [2], [3], count=2), (1, ()), (2, ()))
        self.check(font_bytes([1], [2], [3], count=9), (1, ()), (2, ()), (3, ()))
        self.check(font_bytes([1], [2], count=9) + [1], (1, ()), (2, ()))
        self.check(font_bytes([1], [2]) + [1, 2, 3, 4], (1, ()), (2, ()))

    def test_glyphs_without_bytes(self):
        self.check(font_bytes([]), (0, ()))
        self.check(font_bytes([], [], [9]), (0, ()), (0, ()), (9, ()))

    def test_glyphs_with_fewer_bytes_than_they_say(self):
        self.check(SIGN + [0, 1, 0, 9, 0], (0, ()))
        self.check(SIGN + [0, 2, 0, 9, 0, 7, 1, 2, 3], (7, (("move", 2, 3),)))
        self.check(SIGN + [0, 2, 0, 255, 255, 7, 1, 2, 3, 2, 9], (7, (("move", 2, 3),)))

    def test_bytes_that_begin_no_step(self):
        for byte in (0, 5, 6, 128, 255):
            self.check_glyph([7, byte], 7)
            self.check_glyph([7, byte, byte, 1, 2, 3, byte, 2, 4, 5, byte], 7, ("move", 2, 3), ("line", 4, 5))

    def test_steps(self):
        data = [128, 1, 1, 255, 2, 127, 128, 3, 1, 2, 3, 252, 4, 3, 1, 251, 6]
        self.check_glyph(data, -128, ("move", 1, -1), ("line", 127, -128), ("curve", 1, 2, 3, -4), ("use", 259, -5, 6))

    def test_steps_that_are_broken_off(self):
        for step in ([1, 9, 9], [2, 9, 9], [3, 9, 9, 9, 9], [4, 9, 9, 9, 9]):
            for size in range(1, len(step)):
                self.check_glyph([7] + step[:size], 7)
                self.check_glyph([7, 1, 4, 5] + step[:size], 7, ("move", 4, 5))
        # What stands in a step that is broken off is no step of its own.
        self.check_glyph([7, 3, 1, 8, 8], 7)
        self.check_glyph([7, 4, 2, 8, 8], 7)

    def test_more_than_1000_steps(self):
        steps = [1, 2, 3] * 1000
        expected = (("move", 2, 3),) * 1000
        self.check_glyph([7] + steps, 7, *expected)
        self.check_glyph([7] + steps + [1, 2, 3], 7, *expected)
        self.check_glyph([7] + steps + [2, 4, 5, 9, 9, 9], 7, *expected)
        self.check_glyph([7] + [0] * 500 + steps + [4], 7, *expected)
        self.check_glyph([7] + steps[:-3] + [4, 0], 7, *expected[:-1])

    def test_drawn_bytes(self):
        source = drawn(43)
        for _ in range(500):
            data = SIGN + drawn_bytes(source, 40, source.choice((4, 20, 255)))
            font, left = read_font(data, len(data) + 1)
            self.assertEqual(left, 1)
            self.assertTrue(font is None or is_font(font))

    def test_written_fonts_that_were_changed(self):
        source = drawn(44)
        for _ in range(500):
            data = changed(source, write_font(drawn_font(source)), 5)
            font, left = read_font(data, len(data))
            self.assertEqual(left, 0)
            if font is not None:
                self.assertTrue(is_font(font))
                again = write_font(font)
                self.assertEqual(read_font(again, len(again)), (font, 0))

    def test_copies(self):
        check_copies(self, read_font, font_bytes([1, 1, 5, 5], ranges=((1, 2, 3),)), 99)


if __name__ == "__main__":
    unittest.main()
