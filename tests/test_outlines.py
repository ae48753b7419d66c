import math
import unittest

from stillroom.outlines import move, scale
from support import check_copies, drawn

SHAPE = (((0, 0), (3, -3), (-7, 8)), (), ((5, 5),))


class Scale(unittest.TestCase):
    def test_example(self):
        self.assertEqual(scale((((1, -1), (2, 3)),), 1, 2), (((0, -1), (1, 1)),))

    def test_no_outlines(self):
        self.assertEqual(scale((), 3, 2), ())
        self.assertEqual(scale(((), ()), 3, 2), ((), ()))

    def test_by_1(self):
        self.assertEqual(scale(SHAPE, 1, 1), SHAPE)
        self.assertEqual(scale(SHAPE, 7, 7), SHAPE)

    def test_whole_quotients(self):
        self.assertEqual(scale(SHAPE, 2, 1), (((0, 0), (6, -6), (-14, 16)), (), ((10, 10),)))

    def test_rounded_down(self):
        self.assertEqual(scale(SHAPE, 1, 4), (((0, 0), (0, -1), (-2, 2)), (), ((1, 1),)))
        self.assertEqual(scale(SHAPE, 3, 4), (((0, 0), (2, -3), (-6, 6)), (), ((3, 3),)))

    def test_negative_factors(self):
        self.assertEqual(scale(SHAPE, -1, 2), (((0, 0), (-2, 1), (3, -4)), (), ((-3, -3),)))
        self.assertEqual(scale(SHAPE, 0, 5), (((0, 0), (0, 0), (0, 0)), (), ((0, 0),)))

    def test_great_numbers(self):
        self.assertEqual(scale((((10 ** 30, -(10 ** 30) - 1),),), 1, 10), (((10 ** 29, -(10 ** 29) - 1),),))

    def test_drawn_points(self):
        source = drawn(35)
        for _ in range(300):
            x, y, n = [source.randint(-300, 300) for _ in range(3)]
            m = source.randint(1, 20)
            expected = tuple(math.floor(number * n / m) for number in (x, y))
            self.assertEqual(scale((((x, y),),), n, m), ((expected,),))

    def test_copies(self):
        check_copies(self, scale, SHAPE, 3, 2)


class Move(unittest.TestCase):
    def test_move(self):
        self.assertEqual(move(SHAPE, 10, -20), (((10, -20), (13, -23), (3, -12)), (), ((15, -15),)))
        self.assertEqual(move(SHAPE, 0, 0), SHAPE)

    def test_no_outlines(self):
        self.assertEqual(move((), 3, 2), ())
        self.assertEqual(move(((), ()), 3, 2), ((), ()))

    def test_there_and_back(self):
        self.assertEqual(move(move(SHAPE, -10 ** 9, 7), 10 ** 9, -7), SHAPE)

    def test_copies(self):
        check_copies(self, move, SHAPE, 3, 2)


if __name__ == "__main__":
    unittest.main()
