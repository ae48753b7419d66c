import unittest

from stillroom.errors import Malformed
from stillroom.grid import is_grid
from stillroom.pictures import read_picture, write_picture
from stillroom.rows import predict, unpredict
from stillroom.runs import from_runs, to_runs
from stillroom.window import squeeze, unsqueeze
from support import check_copies, check_work, colour_bytes, drawn, drawn_bytes

SIGN = [137, 73, 77, 71, 13, 10]
ENOUGH = 10 ** 6


def picture(width, height, form, method, colours, data, count=None):
    count = len(colours) if count is None else count
    return SIGN + [width, height, form, method, count] + colour_bytes(*colours) + list(data)


def in_passes(samples, length):
    """The samples with their rows in two passes."""
    rows = [samples[at:at + length] for at in range(0, len(samples), length)]
    return [sample for row in rows[::2] + rows[1::2] for sample in row]


def plain_cells(width, height, form, colours, samples):
    """The cells of samples whose rows are no more predicted, by point 108."""
    size = 4 if form & 1 else 1
    order = list(range(height))
    if form & 4:
        order = order[::2] + order[1::2]
    cells = [-1] * (width * height)
    for at in range(width * height):
        found = samples[at * size:(at + 1) * size]
        place = order[at // width] * width + at % width
        if size == 1 and found and found[0] < len(colours):
            cells[place] = colours[found[0]]
        if size == 4 and len(found) == 4 and found[0]:
            cells[place] = found[1] * 65536 + found[2] * 256 + found[3]
    return width, height, cells


class Reading(unittest.TestCase):
    def check(self, data, expected, more=0):
        """What is read, for the cost of the cells and so much more."""
        width, height = expected[:2]
        self.assertTrue(is_grid(expected))
        return check_work(self, lambda left: read_picture(data, left), 1 + width * height + more, expected)

    def check_fails(self, data):
        for left in (0, 1, 5000):
            self.assertEqual(read_picture(data, left), (None, left))

    def test_other_beginnings(self):
        rest = [1, 1, 0, 0, 0, 5]
        for sign in ([], SIGN[:5], SIGN[1:], [0] + SIGN, SIGN[:5] + [11], [136] + SIGN[1:], [ord("I")]):
            self.check_fails(sign)
            self.check_fails(sign + rest)

    def test_missing_bytes(self):
        whole = SIGN + [1, 1, 0, 0, 0]
        for size in range(len(whole)):
            self.check_fails(whole[:size])
        self.check(whole, (1, 1, [-1]))

    def test_sides(self):
        for side in (0, 65, 66, 255):
            self.check_fails(picture(side, 1, 0, 0, [5], [0] * 255))
            self.check_fails(picture(1, side, 0, 0, [5], [0] * 255))
        self.check(picture(64, 1, 0, 0, [5], [0] * 64), (64, 1, [5] * 64))
        self.check(picture(1, 64, 0, 0, [5], [0] * 64), (1, 64, [5] * 64))
        self.check(picture(64, 64, 0, 0, [5], [0] * 4096), (64, 64, [5] * 4096))

    def test_too_little_work(self):
        data = picture(3, 2, 0, 0, [5], [0] * 6)
        self.assertEqual(self.check(data, (3, 2, [5] * 6)), (None, 0))
        for left in range(7):
            self.assertEqual(read_picture(data, left), (None, 0))

    def test_indexes(self):
        colours = [0, 16777215, 1056816]
        data = picture(3, 2, 0, 0, colours, [0, 1, 2, 2, 1, 0])
        self.check(data, (3, 2, [0, 16777215, 1056816, 1056816, 16777215, 0]))

    def test_indexes_of_no_colour(self):
        self.check(picture(4, 1, 0, 0, [5, 6], [1, 2, 255, 0]), (4, 1, [6, -1, -1, 5]))
        self.check(picture(2, 1, 0, 0, [], [0, 255]), (2, 1, [-1, -1]))
        many = list(range(255))
        self.check(picture(3, 1, 0, 0, many, [254, 255, 0]), (3, 1, [254, -1, 0]))

    def test_colours_that_are_broken_off(self):
        data = SIGN + [3, 1, 0, 0, 3] + colour_bytes(5, 6) + [0, 0]
        self.check(data, (3, 1, [-1] * 3))
        # With all colours, and the bytes of the third one as data where only two are said.
        self.check(data + [7, 0, 1, 2], (3, 1, [5, 6, 7]))
        self.check(SIGN + [3, 1, 0, 0, 2] + colour_bytes(5, 6) + [0, 1, 7], (3, 1, [5, 6, -1]))
        self.check(SIGN + [1, 1, 0, 0, 255], (1, 1, [-1]))

    def test_missing_samples(self):
        self.check(picture(3, 2, 0, 0, [5], [0, 0, 0, 0]), (3, 2, [5, 5, 5, 5, -1, -1]))
        self.check(picture(3, 2, 0, 0, [5], []), (3, 2, [-1] * 6))

    def test_too_many_samples(self):
        self.check(picture(2, 1, 0, 0, [5, 6], [0, 1, 0, 0, 0]), (2, 1, [5, 6]))

    def test_four_bytes(self):
        data = [1, 16, 32, 48, 0, 1, 2, 3, 255, 255, 255, 255, 128, 0, 0, 0]
        self.check(picture(2, 2, 1, 0, [], data), (2, 2, [1056816, -1, 16777215, 0]))
        for count in range(17):
            cells = [1056816, -1, 16777215, 0][:count // 4] + [-1] * (4 - count // 4)
            self.check(picture(2, 2, 1, 0, [], data[:count]), (2, 2, cells))
        self.check(picture(2, 2, 1, 0, [], data + [1, 2, 3, 4]), (2, 2, [1056816, -1, 16777215, 0]))

    def test_four_bytes_behind_colours(self):
        self.check(picture(1, 1, 1, 0, [5, 6], [1, 0, 0, 9]), (1, 1, [9]))
        self.check(picture(1, 1, 1, 0, [1, 2], [], count=3), (1, 1, [-1]))

    def test_method_1(self):
        data = to_runs([0, 0, 0, 0, 1, 2])
        self.check(picture(3, 2, 0, 1, [5, 6, 7], data), (3, 2, [5, 5, 5, 5, 6, 7]), len(data) + 6)

    def test_method_2(self):
        data = squeeze([0, 1, 0, 1, 0, 1, 0, 1])
        self.assertLess(len(data), 8)
        self.check(picture(4, 2, 0, 2, [5, 6], data), (4, 2, [5, 6] * 4), len(data) + 8)

    def test_other_methods(self):
        for method in (3, 4, 128, 255):
            self.check(picture(2, 1, 0, method, [5], [0, 0]), (2, 1, [-1, -1]))
            self.check(picture(2, 1, 2, method, [5], [0, 0, 0]), (2, 1, [-1, -1]))

    def test_too_little_work_for_the_method(self):
        runs = [1, 0, 1, 254, 2, 0, 1]
        data = picture(3, 2, 0, 1, [5, 6, 7], runs)
        for left in range(40):
            if left < 7:
                expected = None
            else:
                samples, after = from_runs(runs, left - 7)
                expected = (plain_cells(3, 2, 0, [5, 6, 7], samples), after)
            self.assertEqual(read_picture(data, left), expected or (None, 0))
        # Behind the cells, the runs cost 7, and then 2, 3 and 1 for what they give.
        for more, cells in (
            (6, [-1] * 6), (7, [-1] * 6), (8, [-1] * 6), (9, [5, 6, -1, -1, -1, -1]), (11, [5, 6, -1, -1, -1, -1]),
            (12, [5, 6, 7, 7, 7, -1]), (13, [5, 6, 7, 7, 7, 6]),
        ):
            self.assertEqual(read_picture(data, 7 + more), ((3, 2, cells), 0))
        matches = [1, 0, 1, 128, 2, 0]
        data = picture(3, 2, 0, 2, [5, 6, 7], matches)
        for more, cells in ((7, [-1] * 6), (8, [5, 6, -1, -1, -1, -1]), (11, [5, 6, 5, 6, 5, -1])):
            self.assertEqual(read_picture(data, 7 + more), ((3, 2, cells), 0))

    def test_predicted_rows(self):
        samples = [0, 1, 2, 1, 2, 2]
        data = predict(samples, 3)
        self.check(picture(3, 2, 2, 0, [5, 6, 7], data), (3, 2, [5, 6, 7, 6, 7, 7]), len(data))
        self.check(picture(3, 2, 2, 0, [5, 6, 7], [1, 1, 0, 0, 2, 1]), (3, 2, [6, 6, 6, 7, -1, -1]), 6)
        self.check(picture(3, 2, 2, 0, [5, 6, 7], [1, 1, 0, 0, 2]), (3, 2, [6, 6, 6, -1, -1, -1]), 5)

    def test_predicted_rows_of_four_bytes(self):
        samples = [1, 0, 0, 5, 1, 0, 0, 6, 1, 9, 9, 9, 0, 1, 2, 3]
        data = predict(samples, 8)
        self.assertNotEqual(unpredict(data, 2, 100)[0], samples)
        self.check(picture(2, 2, 3, 0, [], data), (2, 2, [5, 6, 592137, -1]), len(data))

    def test_too_little_work_for_predicted_rows(self):
        data = predict([0, 1, 2, 1, 2, 2], 3)
        less = self.check(picture(3, 2, 2, 0, [5, 6, 7], data), (3, 2, [5, 6, 7, 6, 7, 7]), len(data))
        self.assertEqual(less, ((3, 2, [-1] * 6), 0))
        # Behind a method that left nothing, no row is read; without samples, none is needed.
        runs = to_runs(data)
        coded = picture(3, 2, 2, 1, [5, 6, 7], runs)
        less = self.check(coded, (3, 2, [5, 6, 7, 6, 7, 7]), len(runs) + 2 * len(data))
        self.assertEqual(less, ((3, 2, [-1] * 6), 0))
        self.assertEqual(read_picture(coded, 7 + len(runs) + len(data)), ((3, 2, [-1] * 6), 0))
        self.assertEqual(read_picture(coded, 7), ((3, 2, [-1] * 6), 0))

    def test_two_passes(self):
        for height, order in ((1, [0]), (2, [0, 1]), (3, [0, 2, 1]), (4, [0, 2, 1, 3]), (5, [0, 2, 4, 1, 3])):
            cells = [0] * height
            for at, row in enumerate(order):
                cells[row] = at + 10
            data = picture(1, height, 4, 0, list(range(10, 20)), range(height))
            self.check(data, (1, height, cells))
            wide = [at for at in range(height) for _ in range(3)]
            data = picture(3, height, 4, 0, list(range(10, 20)), wide)
            self.check(data, (3, height, [cell for cell in cells for _ in range(3)]))

    def test_two_passes_with_missing_samples(self):
        self.check(picture(2, 4, 4, 0, [5, 6], [0, 0, 1, 1, 0]), (2, 4, [5, 5, 5, -1, 6, 6, -1, -1]))
        self.check(picture(2, 3, 4, 0, [5, 6], [0, 0, 1]), (2, 3, [5, 5, -1, -1, 6, -1]))

    def test_each_form(self):
        colours = [5, 600, 70000, 16777215]
        source = drawn(45)
        for form in list(range(8)) + [8, 9, 255, 254, 128 + 4]:
            for method in (0, 1, 2):
                width, height = source.randint(1, 6), source.randint(1, 6)
                length = 4 * width if form & 1 else width
                samples = [source.randint(0, 4) for _ in range(length * height)]
                expected = plain_cells(width, height, form, colours, samples)
                data = predict(samples, length) if form & 2 else samples
                cost = len(data) if form & 2 else 0
                if method:
                    cost += len(data)
                    data = to_runs(data) if method == 1 else squeeze(data)
                    cost += len(data)
                self.check(picture(width, height, form, method, colours, data), expected, cost)

    def test_predicted_rows_come_before_the_passes(self):
        samples = [0, 0, 1, 1, 2, 2]
        data = predict(in_passes(samples, 2), 2)
        self.check(picture(2, 3, 6, 0, [5, 6, 7], data), (2, 3, [5, 5, 6, 6, 7, 7]), len(data))

    def test_drawn_pictures(self):
        source = drawn(46)
        for _ in range(800):
            width, height = source.randint(1, 5), source.randint(1, 5)
            form, method = source.randint(0, 15), source.randint(0, 3)
            colours = [source.randint(0, 16777215) for _ in range(source.randint(0, 4))]
            data = drawn_bytes(source, 60, source.choice((4, 255)))
            left = source.choice((source.randint(0, 150), ENOUGH))
            after = left - 1 - width * height
            expected = (None, 0)
            if after >= 0:
                samples = data
                if method in (1, 2):
                    samples, after = (from_runs, unsqueeze)[method - 1](data, after)
                elif method == 3:
                    samples = []
                if form & 2:
                    samples, after = unpredict(samples, 4 * width if form & 1 else width, after)
                expected = (plain_cells(width, height, form, colours, samples), after)
            self.assertEqual(read_picture(picture(width, height, form, method, colours, data), left), expected)

    def test_drawn_bytes(self):
        source = drawn(47)
        for _ in range(500):
            data = SIGN + [source.randint(0, 66), source.randint(0, 66)] + drawn_bytes(source, 60)
            grid, left = read_picture(data, ENOUGH)
            self.assertTrue(0 <= left <= ENOUGH)
            self.assertTrue(grid is None or is_grid(grid))

    def test_copies(self):
        check_copies(self, read_picture, picture(2, 1, 0, 0, [5, 6], [0, 1]), 50)
        check_copies(self, read_picture, picture(2, 1, 3, 0, [], [0, 1, 2, 3, 4, 5, 6, 7, 8]), 50)


class Writing(unittest.TestCase):
    def check(self, grid, expected=None):
        found = write_picture(grid)
        if expected is not None:
            self.assertEqual(found, expected)
        self.assertEqual(read_picture(found, ENOUGH)[0], grid)
        return found

    def test_example(self):
        self.check((1, 1, [1056816]), [137, 73, 77, 71, 13, 10, 1, 1, 0, 0, 1, 16, 32, 48, 0])

    def test_colours_in_the_order_in_which_they_come(self):
        self.check((3, 2, [9, 7, 9, 8, 7, 6]), picture(3, 2, 0, 0, [9, 7, 8, 6], [0, 1, 0, 2, 1, 3]))
        self.check((2, 1, [16777215, 0]), picture(2, 1, 0, 0, [16777215, 0], [0, 1]))

    def test_none_among_them(self):
        self.check((3, 1, [-1, 5, -1]), picture(3, 1, 0, 0, [5], [255, 0, 255]))

    def test_no_cell_that_has_a_colour(self):
        self.check((1, 1, [-1]), picture(1, 1, 0, 0, [], [255]))
        self.check((3, 2, [-1] * 6), picture(3, 2, 0, 2, [], [0, 255, 130, 1, 0]))

    def test_one_colour(self):
        self.check((2, 2, [5] * 4), picture(2, 2, 0, 0, [5], [0] * 4))

    def test_samples_that_become_shorter_by_matches(self):
        # Five equal samples are five bytes as matches: only six become shorter.
        self.check((5, 1, [5] * 5), picture(5, 1, 0, 0, [5], [0] * 5))
        self.check((6, 1, [5] * 6), picture(6, 1, 0, 2, [5], [0, 0, 130, 1, 0]))
        samples = [0, 1, 2, 0, 1, 2, 0, 1, 2]
        grid = (3, 3, [index + 40 for index in samples])
        self.check(grid, picture(3, 3, 0, 2, [40, 41, 42], squeeze(samples)))
        grid = (3, 3, list(range(9)))
        self.assertGreater(len(squeeze(list(range(9)))), 9)
        self.check(grid, picture(3, 3, 0, 0, list(range(9)), range(9)))

    def test_255_colours(self):
        colours = list(range(1000, 1255))
        self.check((51, 5, colours), picture(51, 5, 0, 0, colours, range(255)))
        cells = colours + [-1]
        self.check((64, 4, cells), picture(64, 4, 0, 0, colours, range(256)))
        cells = [-1] + colours[::-1]
        self.check((64, 4, cells), picture(64, 4, 0, 0, colours[::-1], [255] + list(range(255))))

    def test_256_colours(self):
        cells = list(range(1000, 1256))
        samples = [part for cell in cells for part in [1] + colour_bytes(cell)]
        self.assertGreaterEqual(len(squeeze(samples)), len(samples))
        self.check((64, 4, cells), picture(64, 4, 1, 0, [], samples))
        self.check((52, 5, cells + [-1] * 4), picture(52, 5, 1, 0, [], samples + [0] * 16))

    def test_256_colours_that_become_shorter(self):
        cells = list(range(1000, 1256)) * 2
        cells[300] = -1
        samples = [part for cell in cells for part in ([0] * 4 if cell == -1 else [1] + colour_bytes(cell))]
        self.assertLess(len(squeeze(samples)), len(samples))
        self.check((64, 8, cells), picture(64, 8, 1, 2, [], squeeze(samples)))

    def test_the_greatest_grid(self):
        source = drawn(49)
        for highest in (-1, 0, 5, 300, 16777215):
            self.check((64, 64, [source.randint(-1, highest) for _ in range(4096)]))

    def test_drawn_grids(self):
        source = drawn(50)
        for _ in range(200):
            width, height = source.randint(1, 9), source.randint(1, 9)
            highest = source.choice((0, 3, 16777215))
            self.check((width, height, [source.randint(-1, highest) for _ in range(width * height)]))

    def test_no_grid(self):
        for value in (
            None, 5, (), [1, 1, [0]], (1, 1, (0,)), (1, 1, []), (1, 1, [0, 0]), (0, 1, []), (65, 1, [0] * 65),
            (1, 1, [-2]), (1, 1, [16777216]), (1, 1, [True]), (True, 1, [0]), (1, 1, [0], 0), (1, 1, [[0]]),
        ):
            with self.assertRaises(Malformed, msg=value):
                write_picture(value)

    def test_copies(self):
        check_copies(self, write_picture, (3, 1, [-1, 5, -1]))
        check_copies(self, write_picture, (64, 4, list(range(256))))


if __name__ == "__main__":
    unittest.main()
