"""The outlines of the glyphs of fonts (point 83)."""

import unittest

from stillroom.filling import curve
from stillroom.fonts import outline
from support import check_copies, check_work


def font(*all_steps):
    return tuple((16, steps) for steps in all_steps), ()


def box(x, y):
    """The steps and the points of a small outline."""
    steps = (("move", x, y), ("line", x + 2, y), ("line", x, y + 2))
    return steps, ((x, y), (x + 2, y), (x, y + 2))


class Outlines(unittest.TestCase):
    def check(self, found, expected, cost, glyph=0):
        less = check_work(self, lambda left: outline(found, glyph, left), cost, expected)
        self.assertEqual(less, (None, 0))

    def check_steps(self, *steps):
        """The outlines of a glyph with these steps, each of which costs 1."""
        found, left = outline(font(steps), 0, 100)
        self.assertEqual(left, 100 - len(steps))
        self.check(font(steps), found, len(steps))
        return found

    def test_no_steps(self):
        self.assertEqual(outline(font(()), 0, 5), ((), 5))
        self.assertEqual(outline(font(()), 0, 0), ((), 0))

    def test_no_such_glyph(self):
        found = font((("move", 1, 1),), (("move", 1, 1),))
        for glyph in (2, 3, 65535, -1):
            self.assertEqual(outline(found, glyph, 5), ((), 5))
            self.assertEqual(outline(found, glyph, 0), ((), 0))

    def test_a_move_alone(self):
        self.assertEqual(self.check_steps(("move", 3, -4)), (((3, -4),),))
        self.assertEqual(self.check_steps(("move", 3, -4), ("move", 3, -4)), (((3, -4),), ((3, -4),)))

    def test_lines(self):
        steps, points = box(5, -128)
        self.assertEqual(self.check_steps(*steps), (points,))
        more, others = box(-9, 9)
        self.assertEqual(self.check_steps(*steps, *more), (points, others))

    def test_curves(self):
        found = self.check_steps(("move", 1, 2), ("curve", 30, -40, 7, 100))
        self.assertEqual(found, (((1, 2), *curve((1, 2), (30, -40), (7, 100))),))
        self.assertEqual(len(found[0]), 9)
        found = self.check_steps(("move", 1, 2), ("line", 9, 9), ("curve", 3, 4, 5, 6), ("curve", -7, -8, -9, -10))
        expected = ((1, 2), (9, 9), *curve((9, 9), (3, 4), (5, 6)), *curve((5, 6), (-7, -8), (-9, -10)))
        self.assertEqual(found, (expected,))
        found = self.check_steps(("move", 1, 2), ("move", 90, 80), ("curve", 3, 4, 5, 6))
        self.assertEqual(found, (((1, 2),), ((90, 80), *curve((90, 80), (3, 4), (5, 6)))))

    def test_before_a_move(self):
        steps, points = box(0, 0)
        self.assertEqual(self.check_steps(("line", 1, 1)), ())
        self.assertEqual(self.check_steps(("curve", 1, 1, 2, 2)), ())
        self.assertEqual(self.check_steps(("line", 1, 1), ("curve", 1, 1, 2, 2), *steps), (points,))

    def test_a_use(self):
        steps, points = box(1, 1)
        found = font((("use", 1, 10, -20),), steps)
        self.check(found, (((11, -19), (13, -19), (11, -17)),), 4)
        found = font((("use", 1, 0, 0), ("use", 1, 127, -128)), steps)
        self.check(found, (points, tuple((x + 127, y - 128) for x, y in points)), 8)

    def test_the_order(self):
        first, one = box(0, 0)
        last, three = box(50, 50)
        steps, two = box(20, 20)
        self.check(font(first + (("use", 1, 0, 0),) + last, steps), (one, two, three), 10)

    def test_a_line_behind_a_use(self):
        steps, points = box(0, 0)
        inner, others = box(20, 20)
        behind = (("line", 7, 7), ("curve", 1, 1, 2, 2))
        self.check(font(steps + (("use", 1, 0, 0),) + behind, inner), (points, others), 9)
        self.check(font((("use", 1, 0, 0),) + behind + steps + (("line", 3, 3),), inner),
                   (others, points + ((3, 3),)), 10)

    def test_a_use_that_does_nothing_more_ends_the_outline(self):
        steps, points = box(0, 0)
        for glyph in (0, 5, 65535):
            found = font(steps + (("use", glyph, 1, 1), ("line", 7, 7)))
            self.check(found, (points,), 5)

    def test_a_use_of_a_glyph_without_outlines(self):
        steps, points = box(0, 0)
        self.check(font(steps + (("use", 1, 1, 1), ("line", 7, 7)), ()), (points,), 5)
        self.check(font(steps + (("use", 1, 1, 1), ("line", 7, 7)), (("line", 1, 1),)), (points,), 6)

    def test_no_outline_goes_on_in_a_used_glyph(self):
        found = font((("move", 1, 1), ("use", 1, 5, 5)), (("line", 2, 2), ("move", 3, 3)))
        self.check(found, (((1, 1),), ((8, 8),)), 4)

    def test_a_use_of_itself(self):
        steps, points = box(0, 0)
        self.check(font((("use", 0, 1, 1),) + steps), (points,), 4)

    def test_a_use_of_a_glyph_around(self):
        steps, points = box(0, 0)
        others, two = box(9, 9)
        found = font(steps + (("use", 1, 0, 0),), others + (("use", 0, 0, 0), ("use", 1, 0, 0)))
        self.check(found, (points, two), 4 + 5)
        self.check(found, (two, points), 5 + 4, 1)
        found = font((("use", 1, 0, 0),), (("use", 2, 0, 0),), (("use", 0, 0, 0), ("use", 1, 0, 0)) + steps)
        self.check(found, (points,), 1 + 1 + 5)

    def test_a_glyph_that_is_used_again_beside_itself(self):
        steps, points = box(0, 0)
        found = font((("use", 1, 0, 0), ("use", 2, 0, 0)), (("use", 2, 0, 0),), steps)
        self.check(found, (points, points), 1 + 1 + 3 + 1 + 3)

    def test_four_and_five_glyphs_around(self):
        # Each glyph has a point of its own, and uses the next one.
        found = font(*[(("move", at, 0), ("use", at + 1, 0, 10)) for at in range(8)])
        self.check(found, tuple(((at, 10 * at),) for at in range(5)), 10)
        self.check(found, tuple(((at + 2, 10 * at),) for at in range(5)), 10, 2)
        self.check(found, tuple(((at + 5, 10 * at),) for at in range(3)), 6, 5)

    def test_moves_add_up(self):
        found = font((("use", 1, 100, -100),), (("use", 2, 100, -100),), (("move", 100, -100),))
        self.check(found, (((300, -300),),), 3)

    def test_curves_in_a_used_glyph(self):
        found = font((("use", 1, 5, 7),), (("move", 1, 2), ("curve", 30, -40, 7, 100)))
        expected = [(1, 2)] + curve((1, 2), (30, -40), (7, 100))
        self.check(found, (tuple((x + 5, y + 7) for x, y in expected),), 3)

    def test_each_amount_of_work(self):
        steps, points = box(0, 0)
        found = font((("move", 9, 9), ("use", 1, 0, 0), ("move", 8, 8)), (("use", 2, 0, 0), ("move", 7, 7)), steps)
        expected = (((9, 9),), points, ((7, 7),), ((8, 8),))
        for left in range(20):
            self.assertEqual(outline(found, 0, left), (expected, left - 8) if left >= 8 else (None, 0))

    def test_many_uses(self):
        found = font(*[tuple(("use", other, 1, 1) for other in range(8) if other != at) * 20 for at in range(8)])
        self.assertEqual(outline(found, 0, 20000), (None, 0))

    def test_copies(self):
        steps, _ = box(0, 0)
        check_copies(self, outline, font(steps + (("use", 1, 0, 0),), steps), 0, 50)


if __name__ == "__main__":
    unittest.main()
