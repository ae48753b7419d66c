import unittest

from stillroom.rows import predict, unpredict
from support import check_copies, check_work, drawn, drawn_bytes


def prediction(method, left, above, corner):
    if method == 4:
        aim = left + above - corner
        return sorted([left, above, corner], key=lambda byte: abs(byte - aim))[0]
    return [0, left, above, (left + above) // 2][method]


def at_place(rows, row, column):
    return rows[row][column] if row >= 0 and column >= 0 else 0


def plain_predict(data, width):
    """Points 26 and 27, word by word."""
    width = max(1, min(width, 65536))
    rows = [data[at:at + width] for at in range(0, len(data), width)]
    found = []
    for row in range(len(rows)):
        written = []
        for method in range(5):
            line = []
            for column, byte in enumerate(rows[row]):
                left = at_place(rows, row, column - 1)
                above = at_place(rows, row - 1, column)
                corner = at_place(rows, row - 1, column - 1)
                line.append((byte - prediction(method, left, above, corner)) % 256)
            weight = sum(byte if byte < 128 else 256 - byte for byte in line)
            written.append((weight, method, line))
        _, method, line = min(written)
        found += [method] + line
    return found


class Writing(unittest.TestCase):
    def check(self, data, width, expected):
        self.assertEqual(predict(data, width), expected)
        self.assertEqual(plain_predict(data, width), expected)
        self.assertEqual(unpredict(expected, width, len(expected)), (data, 0))

    def test_example(self):
        self.check([1, 2, 3, 2, 3, 4], 3, [1, 1, 1, 1, 2, 1, 1, 1])

    def test_nothing(self):
        for width in (-1, 0, 1, 5):
            self.check([], width, [])

    def test_method_0(self):
        self.check([0, 0], 2, [0, 0, 0])
        self.check([1, 255, 1], 3, [0, 1, 255, 1])

    def test_method_1(self):
        self.check([50, 51, 53], 3, [1, 50, 1, 2])
        self.check([200, 199, 197], 3, [1, 200, 255, 254])

    def test_method_2(self):
        self.check([90, 0, 90, 91, 1, 91], 3, [0, 90, 0, 90, 2, 1, 1, 1])

    def test_method_3(self):
        data = [100, 0, 100, 0, 50, 25, 63, 31]
        self.check(data, 4, plain_predict(data, 4))
        self.assertEqual(predict(data, 4)[5:], [3, 0, 0, 1, 0])

    def test_method_4(self):
        data = [10, 60, 20, 70, 50, 100, 60, 110]
        self.check(data, 4, plain_predict(data, 4))
        self.assertEqual(predict(data, 4)[5], 4)

    def test_several_methods_with_the_same_weight(self):
        self.check([7], 1, [0, 7])
        self.check([0, 0, 0, 0], 2, [0, 0, 0, 0, 0, 0])
        self.check([7, 7, 7, 7], 2, [1, 7, 0, 2, 0, 0])
        self.check([5, 5], 1, [0, 5, 2, 0])

    def test_a_weight_counts_128_and_more_backwards(self):
        self.check([128, 0], 2, [0, 128, 0])
        self.check([255, 254], 2, [1, 255, 255])

    def test_a_shorter_last_row(self):
        self.check([1, 2, 3, 2], 3, [1, 1, 1, 1, 2, 1])
        self.check([1, 2, 3, 2, 3], 3, [1, 1, 1, 1, 2, 1, 1])

    def test_widths_below_1(self):
        for width in (0, -1, -70000):
            self.assertEqual(predict([9, 9, 8], width), predict([9, 9, 8], 1))
            self.check([9, 9, 8], width, [0, 9, 2, 0, 2, 255])

    def test_widths_greater_than_the_list(self):
        for width in (3, 4, 65536, 65537, 10 ** 9):
            self.check([50, 51, 52], width, [1, 50, 1, 1])

    def test_widths_above_65536(self):
        data = [at // 300 % 256 for at in range(65540)]
        expected = predict(data, 65536)
        self.assertEqual(len(expected), 65542)
        self.assertEqual(predict(data, 65537), expected)
        self.assertEqual(predict(data, 10 ** 20), expected)
        self.assertEqual(len(predict(data, 65535)), 65542)
        self.assertNotEqual(predict(data, 65535), expected)
        self.assertEqual(unpredict(expected, 10 ** 20, len(expected)), (data, 0))
        self.assertEqual(unpredict(expected, 65537, len(expected)), (data, 0))

    def test_drawn_lists(self):
        source = drawn(13)
        for _ in range(200):
            data = drawn_bytes(source, 60, source.choice((3, 255)))
            width = source.randint(-1, 9)
            self.check(data, width, plain_predict(data, width))

    def test_each_method_comes(self):
        source = drawn(14)
        methods = set()
        for _ in range(50):
            data = [source.randint(0, 255) for _ in range(32)]
            methods |= set(predict(data, 3)[::4])
        self.assertEqual(methods, {0, 1, 2, 3, 4})

    def test_copies(self):
        check_copies(self, predict, [1, 2, 3], 2)


class Reading(unittest.TestCase):
    def check(self, data, width, expected):
        less = check_work(self, lambda left: unpredict(data, width, left), len(data), expected)
        self.assertEqual(less, ([], 0))

    def test_each_method(self):
        start = [0, 10, 20, 40]
        self.check(start + [0, 1, 2, 3], 3, [10, 20, 40, 1, 2, 3])
        self.check(start + [1, 1, 2, 3], 3, [10, 20, 40, 1, 3, 6])
        self.check(start + [2, 1, 2, 3], 3, [10, 20, 40, 11, 22, 43])
        self.check(start + [3, 1, 2, 3], 3, [10, 20, 40, 6, 15, 30])
        self.check(start + [4, 1, 2, 3], 3, [10, 20, 40, 11, 22, 43])

    def test_the_first_row(self):
        self.check([1, 5, 250, 2], 3, [5, 255, 1])
        self.check([2, 5, 6, 7], 3, [5, 6, 7])
        self.check([3, 5, 6, 7], 3, [5, 8, 11])
        self.check([4, 5, 6, 7], 3, [5, 11, 18])

    def test_equally_near_predictions(self):
        # left 10, above 20, corner 15: all but the corner are 5 from 15.
        self.check([0, 15, 20, 4, 251, 0], 2, [15, 20, 10, 15])
        # left 8, above 4, corner 6: the corner is the nearest to 6.
        self.check([0, 6, 4, 4, 2, 0], 2, [6, 4, 8, 6])
        # left 4, above 8, corner 8: left and above - corner leave 4.
        self.check([0, 8, 8, 4, 252, 0], 2, [8, 8, 4, 4])
        # left 3, above 9, corner 7: the aim is 5; left and corner are 2 from it.
        self.check([0, 7, 9, 4, 252, 0], 2, [7, 9, 3, 3])
        # left 11, above 3, corner 5: the aim is 9; left is the nearest.
        self.check([0, 5, 3, 4, 6, 0], 2, [5, 3, 11, 11])
        # left 1, above 5, corner 9: the aim is -3.
        self.check([0, 9, 5, 4, 248, 0], 2, [9, 5, 1, 1])
        # left 9, above 3, corner 7: the aim is 5; above and corner are 2 from it.
        self.check([0, 7, 3, 4, 2, 0], 2, [7, 3, 9, 3])

    def test_methods_greater_than_4(self):
        for method in (5, 6, 128, 255):
            self.check([0, 10, 20, method, 1, 2], 2, [10, 20, 1, 2])

    def test_a_method_without_bytes(self):
        for method in (0, 1, 4, 9):
            self.check([method], 3, [])
            self.check([0, 1, 2, method], 2, [1, 2])

    def test_a_broken_off_row(self):
        self.check([0, 1, 2, 2, 5], 2, [1, 2, 6])

    def test_nothing(self):
        self.assertEqual(unpredict([], 3, 0), ([], 0))

    def test_widths(self):
        for width in (1, 0, -9):
            self.check([0, 1, 2, 2, 1, 3], width, [1, 3, 3])
        for width in (5, 6, 65536, 65537):
            self.check([1, 1, 2, 2, 1, 3], width, [1, 3, 5, 6, 9])

    def test_copies(self):
        check_copies(self, unpredict, [1, 2, 3], 2, 9)


if __name__ == "__main__":
    unittest.main()
