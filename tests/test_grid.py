import unittest

from stillroom.errors import OutOfRange
from stillroom.grid import in_box, is_grid, new_grid
from support import check_copies

FAR = 1048576


class IsGrid(unittest.TestCase):
    def check(self, value, expected):
        self.assertIs(is_grid(value), expected, value)

    def test_grids(self):
        for width, height in ((1, 1), (1, 64), (64, 1), (64, 64), (3, 2)):
            for cell in (-1, 0, 1, 16777215):
                self.check((width, height, [cell] * (width * height)), True)
        self.check((2, 2, [-1, 0, 16777215, 5]), True)

    def test_sides(self):
        for side in (0, -1, 65, True, 1.0, "1", None, (1,), [1]):
            self.check((side, 1, [0]), False)
            self.check((1, side, [0]), False)
        self.check((65, 1, [0] * 65), False)
        self.check((1, 65, [0] * 65), False)
        self.check((0, 0, []), False)
        self.check((0, 5, []), False)
        self.check((-1, -1, [0]), False)
        self.check((True, 1, [0]), False)

    def test_too_few_and_too_many_cells(self):
        for count in (0, 5, 7, 12):
            self.check((3, 2, [0] * count), False)
        self.check((1, 1, []), False)

    def test_cells(self):
        for cell in (-2, 16777216, True, False, 1.0, "0", None, (0,), [0], 10 ** 30):
            self.check((1, 1, [cell]), False)
            self.check((2, 2, [0, 0, 0, cell]), False)

    def test_cells_that_are_no_list(self):
        for cells in ((0,), "0", b"0", {0: 0}, {0}, None, 0):
            self.check((1, 1, cells), False)

    def test_other_forms(self):
        for value in (
            None, 0, True, "grid", (), [], {}, (1, 1), (1, 1, [0], 0), [1, 1, [0]], ((1, 1, [0]),), "abc", b"abc",
            {1: 1, 2: 1, 3: [0]},
        ):
            self.check(value, False)

    def test_deep_values(self):
        deep = 5
        for _ in range(100):
            deep = [deep]
        self.check(deep, False)
        self.check((1, 1, deep), False)
        self.check((deep, deep, deep), False)

    def test_copies(self):
        check_copies(self, is_grid, (1, 2, [0, 5]))


class NewGrid(unittest.TestCase):
    def test_grids(self):
        self.assertEqual(new_grid(1, 1, 0), (1, 1, [0]))
        self.assertEqual(new_grid(3, 2, 5), (3, 2, [5] * 6))
        self.assertEqual(new_grid(2, 1, -1), (2, 1, [-1, -1]))
        for width, height in ((64, 64), (1, 64), (64, 1)):
            found = new_grid(width, height, 16777215)
            self.assertEqual(found, (width, height, [16777215] * (width * height)))
            self.assertTrue(is_grid(found))

    def test_out_of_range(self):
        for side in (0, -1, 65, 1000):
            with self.assertRaises(OutOfRange):
                new_grid(side, 1, 0)
            with self.assertRaises(OutOfRange):
                new_grid(1, side, 0)
        for colour in (-2, 16777216):
            with self.assertRaises(OutOfRange):
                new_grid(1, 1, colour)

    def test_copies(self):
        check_copies(self, new_grid, 3, 2, 5)


class InBox(unittest.TestCase):
    def check(self, x, y, box, expected):
        self.assertIs(in_box(x, y, box), expected, (x, y, box))

    def test_each_side(self):
        box = (2, 10, 6, 30)
        for y in (10, 11, 20, 29):
            for x, expected in ((1, False), (2, True), (3, True), (5, True), (6, False), (7, False)):
                self.check(x, y, box, expected)
        for x in (2, 3, 5):
            for y, expected in ((9, False), (10, True), (29, True), (30, False), (31, False)):
                self.check(x, y, box, expected)
        for x in (1, 6):
            for y in (9, 10, 29, 30):
                self.check(x, y, box, False)

    def test_negative_places(self):
        self.check(-3, -3, (-3, -3, -2, -2), True)
        self.check(-2, -3, (-3, -3, -2, -2), False)
        self.check(0, 0, (-5, -5, 5, 5), True)

    def test_boxes_without_places(self):
        for box in ((5, 0, 5, 9), (0, 5, 9, 5), (6, 0, 4, 9), (0, 6, 9, 4), (5, 5, 5, 5), (9, 9, 0, 0)):
            for x in range(10):
                for y in range(10):
                    self.check(x, y, box, False)

    def test_places_at_the_bounds(self):
        box = (-FAR, -FAR, FAR, FAR)
        for number, expected in (
            (-FAR, True), (-FAR - 1, True), (-(10 ** 20), True), (FAR - 1, True), (FAR, False), (FAR + 1, False),
            (10 ** 20, False),
        ):
            self.check(number, 0, box, expected)
            self.check(0, number, box, expected)

    def test_boxes_beyond_the_bounds(self):
        for more in (0, 1, 10 ** 20):
            box = (-FAR - more, -FAR - more, FAR + more, FAR + more)
            self.check(-FAR, -FAR, box, True)
            self.check(FAR - 1, FAR - 1, box, True)
            self.check(FAR, 0, box, False)
            self.check(0, FAR, box, False)
            self.check(-FAR - 5, -FAR - 7, box, True)
        self.check(FAR + 5, 0, (FAR + 1, 0, FAR + 9, 9), False)
        self.check(-FAR - 5, 0, (-FAR - 9, 0, -FAR - 1, 9), False)
        self.check(-FAR - 5, 0, (-FAR - 3, 0, 0, 9), True)

    def test_the_middles_of_cells(self):
        # The cell in the column 1 and the row 2 has its middle at (6, 10).
        self.check(6, 10, (4, 8, 8, 12), True)
        self.check(6, 10, (6, 10, 7, 11), True)
        self.check(6, 10, (7, 8, 8, 12), False)
        self.check(6, 10, (4, 8, 6, 12), False)

    def test_copies(self):
        check_copies(self, in_box, 1, 2, (0, 0, 4, 4))


if __name__ == "__main__":
    unittest.main()
