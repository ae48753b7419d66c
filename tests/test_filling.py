import math
import unittest
from fractions import Fraction

from stillroom.filling import curve, fill, paint, place
from stillroom.grid import is_grid, new_grid
from stillroom.outlines import move
from support import check_copies, check_work, drawn

FAR = 1048576
ALL = (-FAR, -FAR, FAR, FAR)


def box_outline(x0, y0, x1, y1):
    return (x0, y0), (x1, y0), (x1, y1), (x0, y1)


def near(number):
    return max(-FAR, min(FAR, number))


def counts(edge, x, y):
    """Point 102, word by word."""
    (x0, y0), (x1, y1) = edge
    if not (y0 <= y < y1 or y1 <= y < y0):
        return False
    return x0 + Fraction((y - y0) * (x1 - x0), y1 - y0) <= x


def is_inside(outlines, x, y):
    edges = []
    for points in outlines:
        ends = [(near(a), near(b)) for a, b in points]
        edges += [(ends[at - 1], ends[at]) for at in range(len(ends))]
    return sum(counts(edge, x, y) for edge in edges) % 2 == 1


def is_in(box, x, y):
    x0, y0, x1, y1 = map(near, box)
    return x0 <= x < x1 and y0 <= y < y1


def plain_fill(grid, clip, outlines, colour):
    width, height, cells = grid
    found = list(cells)
    for at in range(len(cells)):
        x, y = 4 * (at % width) + 2, 4 * (at // width) + 2
        if is_in(clip, x, y) and is_inside(outlines, x, y):
            found[at] = colour
    return width, height, found


def plain_place(grid, clip, picture, box):
    width, height, cells = grid
    x0, y0, x1, y1 = map(near, box)
    found = list(cells)
    for at in range(len(cells)):
        x, y = 4 * (at % width) + 2, 4 * (at // width) + 2
        if is_in(clip, x, y) and is_in(box, x, y):
            column = (x - x0) * picture[0] // (x1 - x0)
            row = (y - y0) * picture[1] // (y1 - y0)
            cell = picture[2][row * picture[0] + column]
            found[at] = found[at] if cell == -1 else cell
    return width, height, found


def rows(grid):
    """A grid as rows of signs: . for 0, # for anything else."""
    width, _, cells = grid
    signs = "".join("#" if cell else "." for cell in cells)
    return [signs[at:at + width] for at in range(0, len(signs), width)]


def drawn_outlines(source):
    low, high = source.choice(((-4, 28), (0, 24), (-40, 60), (-2 * FAR, 2 * FAR)))
    counts = [source.randint(0, 6) for _ in range(source.randint(0, 4))]
    return tuple(
        tuple((source.randint(low, high), source.randint(low, high)) for _ in range(count)) for count in counts
    )


class Filling(unittest.TestCase):
    def check(self, outlines, *expected, clip=ALL):
        grid = (len(expected[0]), len(expected), [0] * sum(map(len, expected)))
        found = fill(grid, clip, outlines, 7)
        self.assertEqual(rows(found), list(expected))
        self.assertEqual(found, plain_fill(grid, clip, outlines, 7))

    def test_a_box(self):
        self.check((box_outline(4, 4, 12, 8),), "....", ".##.", "....")

    def test_middles_on_an_edge(self):
        # A middle on the left or upper edge is inside, on the right or lower edge it is not.
        self.check((box_outline(6, 2, 14, 10),), ".##.", ".##.", "....")
        self.check((box_outline(7, 3, 14, 10),), "....", "..#.", "....")
        self.check((box_outline(6, 2, 15, 11),), ".###", ".###", ".###")

    def test_middles_on_a_slope(self):
        # The slope goes through the middles (2, 2), (6, 6) and (10, 10).
        self.check((((0, 0), (12, 12), (0, 12)),), "...", "#..", "##.")
        self.check((((0, 0), (12, 0), (12, 12)),), "###", ".##", "..#")

    def test_middles_at_a_corner(self):
        self.check((((6, 2), (10, 6), (6, 10), (2, 6)),), "...", "##.", "...")
        self.check((((6, 6), (20, 6), (20, 20)),), "....", ".###", "..##", "...#")

    def test_fractions_are_exact(self):
        # At the height 2 the slope stands at 2 exactly, at a third more, and at a third less.
        self.check((((0, 0), (3, 3), (40, 3), (40, 0)),), "##")
        self.check((((0, 1), (7, 4), (40, 4), (40, 1)),), ".#")
        self.check((((0, 0), (5, 6), (40, 6), (40, 0)),), "##")
        self.check((((0, 0), (1000001, 1000000), (1000001, 0)),), ".#")
        self.check((((0, 0), (1000000, 1000001), (1000001, 0)),), "##")

    def test_level_edges(self):
        self.check((((0, 2), (8, 2)),), "..")
        self.check((((0, 2), (8, 2), (4, 2)),), "..")
        self.check((((0, 2), (8, 2), (8, 6), (0, 6)),), "##", "..")
        self.check((((0, 2), (4, 2), (8, 2), (8, 6), (6, 6), (0, 6)),), "##", "..")

    def test_no_outlines(self):
        self.check((), "..", "..")

    def test_outlines_of_no_one_and_two_points(self):
        self.check(((),), "..", "..")
        self.check((((0, 0),),), "..", "..")
        self.check((((0, 0), (8, 8)),), "..", "..")
        self.check((((0, 0), (0, 8)),), "..", "..")
        self.check(((), ((2, 2),), box_outline(0, 0, 4, 4), ((2, 0), (2, 9))), "#.", "..")

    def test_outlines_that_cross(self):
        self.check((box_outline(0, 0, 12, 8), box_outline(4, 4, 16, 12)), "###.", "#..#", ".###")
        self.check((((0, 0), (16, 16), (16, 0), (0, 16)),), "...#", "#.##", "#.##", "...#")

    def test_an_outline_twice_is_nothing(self):
        self.check((box_outline(0, 0, 8, 8),) * 2, "..", "..")
        self.check((box_outline(0, 0, 8, 8),) * 3, "##", "##")
        self.check((box_outline(0, 0, 8, 8) * 2,), "..", "..")

    def test_a_hole(self):
        self.check((box_outline(0, 0, 12, 12), box_outline(4, 4, 8, 8)), "###", "#.#", "###")

    def test_a_clip_that_cuts(self):
        shape = (box_outline(0, 0, 16, 12),)
        self.check(shape, "....", ".##.", "....", clip=(4, 4, 12, 8))
        self.check(shape, "....", ".##.", "....", clip=(6, 6, 14, 10))
        self.check(shape, "....", "..#.", "....", clip=(7, 6, 14, 10))
        self.check(shape, "....", ".##.", ".##.", clip=(6, 6, 14, 11))
        self.check(shape, "....", "....", "....", clip=(4, 4, 4, 8))
        self.check(shape, "....", "....", "....", clip=(12, 8, 4, 4))
        self.check(shape, "####", "####", "####", clip=(-9, -9, 99, 99))
        self.check(shape, "....", "....", "....", clip=(16, 0, 99, 99))

    def test_beyond_the_grid(self):
        self.check((box_outline(-100, -100, 100, 100),), "##", "##")
        self.check((box_outline(-100, -100, 0, 100),), "..", "..")
        self.check((box_outline(8, -100, 100, 100),), "..", "..")
        self.check((box_outline(-100, -100, 6, 6),), "#.", "..")

    def test_coordinates_beyond_the_bounds(self):
        for far in (FAR, FAR + 1, 10 ** 9, 10 ** 30):
            self.check((box_outline(-far, -far, far, far),), "##", "##")
            # Within the bounds this slope is steep enough to leave the second cell out.
            self.check((((0, 0), (far, far), (far, 0)),), "##", ".#")
            self.check((((0, 0), (2 * far, far), (2 * far, 0)),), "##", ".#")
        self.check((box_outline(-4, -4, 9, 9),), "##", "##", clip=(-10 ** 9, -10 ** 9, 10 ** 9, 10 ** 9))
        self.check((box_outline(-4, -4, 9, 9),), "..", "..", clip=(10 ** 9, 0, 10 ** 9 + 5, 9))

    def test_colours(self):
        grid = (2, 1, [5, 6])
        shape = (box_outline(0, 0, 4, 4),)
        for colour in (-1, 0, 16777215):
            self.assertEqual(fill(grid, ALL, shape, colour), (2, 1, [colour, 6]))
        self.assertEqual(fill((2, 1, [-1, -1]), ALL, shape, 3), (2, 1, [3, -1]))

    def test_drawn_outlines(self):
        source = drawn(36)
        grid = new_grid(6, 5, 0)
        for _ in range(1500):
            outlines = drawn_outlines(source)
            clip = source.choice((ALL, tuple(source.randint(-4, 28) for _ in range(4))))
            self.assertEqual(fill(grid, clip, outlines, 9), plain_fill(grid, clip, outlines, 9), outlines)

    def test_the_order_of_the_points_does_not_matter(self):
        source = drawn(37)
        grid = new_grid(6, 5, 0)
        for _ in range(500):
            outlines = drawn_outlines(source)
            expected = fill(grid, ALL, outlines, 9)
            others = []
            for points in outlines:
                at = source.randint(0, len(points))
                turned = points[at:] + points[:at]
                others.append(turned[::source.choice((1, -1))])
            source.shuffle(others)
            self.assertEqual(fill(grid, ALL, tuple(others), 9), expected)

    def test_two_lists_of_outlines_together(self):
        source = drawn(38)
        grid = new_grid(6, 5, 0)
        for _ in range(500):
            first, second = drawn_outlines(source), drawn_outlines(source)
            alone = [fill(grid, ALL, outlines, 1)[2] for outlines in (first, second)]
            together = fill(grid, ALL, first + second, 1)[2]
            self.assertEqual(together, [a ^ b for a, b in zip(*alone)])

    def test_the_greatest_grid(self):
        grid = new_grid(64, 64, 0)
        outlines = (((1, 2), (250, 17), (130, 255)), ((0, 0), (9, 256), (256, 0)))
        self.assertEqual(fill(grid, ALL, outlines, 3), plain_fill(grid, ALL, outlines, 3))

    def test_copies(self):
        check_copies(self, fill, (2, 2, [0, 1, 2, 3]), ALL, (box_outline(0, 0, 4, 4),), 9)
        check_copies(self, fill, (2, 2, [0, 1, 2, 3]), ALL, (), 9)


class Placing(unittest.TestCase):
    picture = (2, 2, [1, 2, 3, 4])

    def check(self, box, expected, clip=ALL, picture=None, width=3):
        picture = picture or self.picture
        grid = (width, len(expected) // width, [0] * len(expected))
        found = place(grid, clip, picture, box)
        self.assertEqual(found, (width, len(expected) // width, expected))
        self.assertEqual(found, plain_place(grid, clip, picture, box))

    def test_cell_by_cell(self):
        self.check((0, 0, 8, 8), [1, 2, 0, 3, 4, 0])
        self.check((4, 0, 12, 8), [0, 1, 2, 0, 3, 4])

    def test_a_greater_box(self):
        self.check((0, 0, 16, 8), [1, 1, 2, 2, 3, 3, 4, 4], width=4)
        self.check((0, 0, 12, 16), [1, 2, 2, 1, 2, 2, 3, 4, 4, 3, 4, 4])

    def test_a_smaller_box(self):
        picture = (4, 2, [1, 2, 3, 4, 5, 6, 7, 8])
        self.check((0, 0, 8, 4), [6, 8, 0, 0, 0, 0], picture=picture)
        self.check((0, 0, 4, 8), [3, 0, 0, 7, 0, 0], picture=picture)
        self.check((2, 2, 3, 3), [1, 0, 0, 0, 0, 0], picture=picture)

    def test_the_sides_of_the_box(self):
        self.check((2, 2, 6, 6), [1, 0, 0, 0, 0, 0])
        self.check((3, 3, 7, 7), [0, 0, 0, 0, 4, 0])
        self.check((2, 2, 7, 7), [1, 2, 0, 3, 4, 0])

    def test_beyond_the_page(self):
        self.check((-4, -4, 4, 4), [4, 0, 0, 0, 0, 0])
        self.check((-100, -100, 100, 100), [4] * 6)
        self.check((12, 0, 20, 8), [0] * 6)
        self.check((8, 4, 16, 12), [0, 0, 0, 0, 0, 1])

    def test_boxes_without_width_or_height(self):
        for box in ((2, 0, 2, 8), (0, 2, 8, 2), (8, 0, 0, 8), (0, 8, 8, 0), (8, 8, 0, 0), (2, 2, 2, 2)):
            self.check(box, [0] * 6)

    def test_numbers_beyond_the_bounds(self):
        # x0 counts as -1048576 and x1 as 1048576: the cells lie behind the middle of the box.
        for far in (FAR, FAR + 1, 10 ** 30):
            self.check((-far, -far, far, far), [4] * 6)
            self.check((-far, 0, 8, 8), [2, 2, 0, 4, 4, 0])
            self.check((0, -2 * far, 8, far), [3, 4, 0, 3, 4, 0])
        self.check((-3 * FAR, 0, FAR, 8), [2, 2, 2, 4, 4, 4])
        self.check((FAR, 0, FAR + 9, 8), [0] * 6)

    def test_a_clip(self):
        self.check((0, 0, 8, 8), [0, 2, 0, 0, 0, 0], clip=(4, 0, 12, 4))
        self.check((0, 0, 8, 8), [0, 0, 0, 3, 0, 0], clip=(2, 3, 6, 10 ** 9))
        self.check((0, 0, 8, 8), [0] * 6, clip=(4, 4, 0, 0))

    def test_cells_that_are_none(self):
        grid = (2, 2, [5, 6, 7, 8])
        self.assertEqual(place(grid, ALL, (2, 2, [-1, 1, 0, -1]), (0, 0, 8, 8)), (2, 2, [5, 1, 0, 8]))
        self.assertEqual(place(grid, ALL, (1, 1, [-1]), (0, 0, 8, 8)), grid)
        self.assertEqual(place((1, 1, [-1]), ALL, (1, 1, [3]), (0, 0, 4, 4)), (1, 1, [3]))

    def test_drawn_boxes(self):
        source = drawn(39)
        for _ in range(1000):
            sides = [source.randint(1, 7) for _ in range(4)]
            grid = new_grid(sides[0], sides[1], 0)
            cells = [source.randint(-1, 5) for _ in range(sides[2] * sides[3])]
            far = source.choice((30, 30, 2 * FAR))
            box = tuple(source.randint(-far, far) for _ in range(4))
            clip = source.choice((ALL, tuple(source.randint(-4, 28) for _ in range(4))))
            picture = (sides[2], sides[3], cells)
            self.assertEqual(place(grid, clip, picture, box), plain_place(grid, clip, picture, box))

    def test_copies(self):
        check_copies(self, place, (2, 2, [0, 1, 2, 3]), ALL, (1, 1, [9]), (0, 0, 4, 4))


class Curves(unittest.TestCase):
    def check(self, first, control, last, *expected):
        self.assertEqual(curve(first, control, last), list(expected))

    def test_example(self):
        self.assertEqual(curve((0, 0), (8, 0), (8, 8))[3], (6, 2))

    def test_eight_points(self):
        self.check((0, 0), (8, 0), (8, 8), (2, 0), (4, 1), (5, 1), (6, 2), (7, 3), (8, 5), (8, 6), (8, 8))
        rising = [(8, 14), (16, 24), (24, 30), (32, 32)]
        self.check((0, 0), (32, 64), (64, 0), *rising, (40, 30), (48, 24), (56, 14), (64, 0))
        self.check((5, 5), (5, 5), (5, 5), *[(5, 5)] * 8)

    def test_rounding(self):
        # 31 and 32 behind a whole number of 64.
        self.assertEqual(curve((0, 0), (0, 0), (31, 32))[0], (0, 1))
        self.assertEqual(curve((0, 0), (0, 0), (-33, -32))[0], (-1, 0))

    def test_drawn_curves(self):
        source = drawn(58)
        for _ in range(300):
            a, b, c = [(source.randint(-200, 200), source.randint(-200, 200)) for _ in range(3)]
            expected = []
            for k in range(1, 9):
                wholes = [(8 - k) ** 2 * a[at] + 2 * k * (8 - k) * b[at] + k ** 2 * c[at] for at in (0, 1)]
                expected.append(tuple((whole + 32) // 64 for whole in wholes))
            self.assertEqual(curve(a, b, c), expected)

    def test_negative_coordinates_are_rounded_down(self):
        self.check((0, 0), (-8, 0), (-8, -8), *[
            (math.floor((-16 * k * (8 - k) - 8 * k * k + 32) / 64), math.floor((-8 * k * k + 32) / 64))
            for k in range(1, 9)
        ])
        self.assertEqual(curve((0, 0), (0, 0), (-2, -5))[3], (0, -1))
        self.assertEqual(curve((0, 0), (0, 0), (-1, -3))[3], (0, -1))

    def test_the_last_point(self):
        source = drawn(40)
        for _ in range(200):
            points = [(source.randint(-500, 500), source.randint(-500, 500)) for _ in range(3)]
            found = curve(*points)
            self.assertEqual(len(found), 8)
            self.assertEqual(found[-1], points[2])

    def test_moving_the_points_moves_the_curve(self):
        source = drawn(41)
        for _ in range(200):
            points = tuple((source.randint(-500, 500), source.randint(-500, 500)) for _ in range(3))
            dx, dy = source.randint(-99, 99), source.randint(-99, 99)
            self.assertEqual(curve(*move((points,), dx, dy)[0]), list(move((curve(*points),), dx, dy)[0]))

    def test_coordinates_beyond_the_bounds(self):
        for more in (0, 1, 10 ** 20):
            first, control, last = (FAR + more, -FAR - more), (-FAR - more, 0), (0, FAR + more)
            self.assertEqual(curve(first, control, last), curve((FAR, -FAR), (-FAR, 0), (0, FAR)))
        self.assertEqual(curve((0, 0), (0, 0), (10 ** 9, -10 ** 9))[-1], (FAR, -FAR))

    def test_copies(self):
        check_copies(self, curve, (0, 0), (8, 0), (8, 8))


def fill_mark(outlines, colour, clip=ALL):
    return "fill", clip, outlines, colour


def page(width, height, back, *marks):
    return width, height, back, marks, ()


class Painting(unittest.TestCase):
    def check(self, found, expected, cost):
        self.assertTrue(is_grid(expected))
        return check_work(self, lambda left: paint(found, left), cost, expected)

    def test_no_marks(self):
        self.assertEqual(self.check(page(3, 2, 5), (3, 2, [5] * 6), 6), ((3, 2, [5] * 6), 0))
        self.assertEqual(paint(page(3, 2, 5), 0), ((3, 2, [5] * 6), 0))
        self.check(page(64, 64, 0), (64, 64, [0] * 4096), 4096)

    def test_a_fill_mark(self):
        mark = fill_mark((box_outline(0, 0, 4, 4),), 9)
        less = self.check(page(3, 2, 5, mark), (3, 2, [9, 5, 5, 5, 5, 5]), 6 + 1 + 2 * 4)
        self.assertEqual(less, ((3, 2, [5] * 6), 0))

    def test_the_edges_that_a_fill_mark_costs(self):
        for outlines, edges in (
            ((), 0), (((),), 0), ((((0, 0),),), 1), ((((0, 0), (9, 0)),), 2), ((((0, 0), (0, 0)),), 2),
            ((box_outline(0, 0, 4, 4),) * 2, 8), ((box_outline(0, 0, 4, 4), (), ((1, 1),)), 5),
        ):
            for height in (1, 7):
                mark = fill_mark(outlines, 9, (0, 0, 0, 0))
                self.check(page(1, height, 5, mark), (1, height, [5] * height), height + 1 + height * edges)

    def test_an_image_mark(self):
        mark = ("image", ALL, (2, 1, [1, -1]), (0, 0, 8, 4))
        less = self.check(page(3, 2, 5, mark), (3, 2, [1, 5, 5, 5, 5, 5]), 6 + 1 + 2)
        self.assertEqual(less, ((3, 2, [5] * 6), 0))
        nowhere = ("image", (0, 0, 0, 0), (8, 8, [1] * 64), (0, 0, 8, 4))
        self.check(page(3, 2, 5, nowhere), (3, 2, [5] * 6), 6 + 65)

    def test_marks_in_order(self):
        first = fill_mark((box_outline(0, 0, 8, 4),), 1)
        second = ("image", ALL, (1, 1, [2]), (4, 0, 12, 4))
        third = fill_mark((box_outline(8, 0, 16, 4),), 3)
        self.check(page(4, 1, 0, first, second, third), (4, 1, [1, 2, 3, 3]), 4 + 5 + 2 + 5)
        self.check(page(4, 1, 0, third, second, first), (4, 1, [1, 1, 2, 3]), 4 + 5 + 2 + 5)

    def test_nothing_more_is_painted(self):
        first = fill_mark((box_outline(0, 0, 4, 4),), 1)
        second = fill_mark((box_outline(4, 0, 8, 4),), 2)
        third = ("image", ALL, (1, 1, [3]), (8, 0, 12, 4))
        found = page(4, 1, 0, first, second, third)
        for left, cells in (
            (3, [0, 0, 0, 0]), (4, [0, 0, 0, 0]), (8, [0, 0, 0, 0]), (9, [1, 0, 0, 0]), (13, [1, 0, 0, 0]),
            (14, [1, 2, 0, 0]), (15, [1, 2, 0, 0]), (16, [1, 2, 3, 0]),
        ):
            self.assertEqual(paint(found, left), ((4, 1, cells), 0), left)
        # A cheaper mark behind one that costs too much is not painted, either.
        self.assertEqual(paint(page(4, 1, 0, first, third), 7), ((4, 1, [0] * 4), 0))

    def test_clips(self):
        mark = fill_mark((box_outline(0, 0, 16, 16),), 1, (4, 4, 12, 8))
        self.check(page(4, 3, 0, mark), (4, 3, [0] * 5 + [1, 1] + [0] * 5), 12 + 1 + 12)

    def test_acts_mean_nothing(self):
        found = (2, 1, 7, (), (("open", (1, 2)), ("script", ())))
        self.check(found, (2, 1, [7, 7]), 2)

    def test_copies(self):
        picture = (1, 1, [2])
        marks = (fill_mark((box_outline(0, 0, 8, 4),), 1), ("image", ALL, picture, (4, 0, 12, 4)))
        check_copies(self, paint, page(4, 1, 0, *marks), 99)
        check_copies(self, paint, page(4, 1, 0), 0)


if __name__ == "__main__":
    unittest.main()
