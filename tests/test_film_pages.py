"""Composing films, and their pages (points 114 and 115)."""

import unittest

from stillroom.films import compose, film_pages, read_film, write_film
from stillroom.grid import is_grid
from filmed import SIGN, drawn_film, film, frame
from support import changed, check_copies, check_work, drawn

ENOUGH = 10 ** 7


def plain_compose(found):
    """Point 114, word by word, for all frames of a film."""
    width, height, ground, colours, _, frames = found
    canvas = {(x, y): ground for y in range(height) for x in range(width)}
    results = []
    for x, y, across, down, own, clear, after, _, indexes in frames:
        before = dict(canvas)
        for at, index in enumerate(indexes):
            place = (x + at % across, y + at // across)
            table = colours if own is None else own
            if place in canvas and index != clear and index < len(table):
                canvas[place] = table[index]
        results.append((width, height, list(canvas.values())))
        if after == 1:
            for place in canvas:
                if x <= place[0] < x + across and y <= place[1] < y + down:
                    canvas[place] = ground
        if after == 2:
            canvas = before
    return results


def plain_pages(found):
    pages = []
    canvases = plain_compose(found)
    for at, (canvas, part) in enumerate(zip(canvases, found[5])):
        if (part[7] or at == len(canvases) - 1) and pages[-1:] != [canvas]:
            pages.append(canvas)
    return pages[:8]


class Composing(unittest.TestCase):
    def check(self, found, *expected):
        """The cells of each canvas; each frame costs 1 and the cells of the canvas."""
        width, height = found[:2]
        canvases = [(width, height, list(cells)) for cells in expected]
        cost = len(canvases) * (1 + width * height)
        check_work(self, lambda left: compose(found, left), cost, canvases)
        self.assertEqual(compose(found, cost - 1), (canvases[:-1], 0))
        self.assertEqual(plain_compose(found), canvases)

    def test_no_frames(self):
        self.assertEqual(compose(film(2, 2), 5), ([], 5))
        self.assertEqual(compose(film(2, 2), 0), ([], 0))

    def test_one_frame(self):
        self.check(film(2, 2, frame([0, 1, 2, 3], height=2)), [10, 11, 12, 13])
        self.check(film(3, 2, frame([0, 1], 1, 1), ground=7), [7, 7, 7, 7, 10, 11])

    def test_frames_in_order(self):
        self.check(film(3, 1, frame([0]), frame([1], 1), frame([2], 2)), [10, 0, 0], [10, 11, 0], [10, 11, 12])
        self.check(film(2, 1, frame([0, 1]), frame([2, 3])), [10, 11], [12, 13])

    def test_frames_beyond_the_canvas(self):
        self.check(film(2, 2, frame([0, 1, 2, 3], 1, 1, height=2)), [0, 0, 0, 10])
        self.check(film(2, 1, frame([0, 1, 2, 3], 1)), [0, 10])
        self.check(film(2, 1, frame([0], 2)), [0, 0])
        self.check(film(2, 1, frame([0], 0, 1)), [0, 0])
        self.check(film(2, 1, frame([0] * 9, 255, 255, height=3)), [0, 0])
        self.check(film(1, 2, frame([0, 1, 2, 3, 0, 1], height=3)), [10, 12])

    def test_frames_at_negative_places(self):
        # These are beyond the form of a film, but no reason for an error.
        self.check(film(2, 2, frame([0, 1, 2, 3], -1, -1, height=2)), [13, 0, 0, 0])
        self.check(film(2, 2, frame([0, 1, 2, 3], -9, 0, height=2)), [0, 0, 0, 0])

    def test_a_frame_without_cells(self):
        self.check(film(2, 1, frame([0, 1]), frame([], width=0, height=5, after=1)), [10, 11], [10, 11])

    def test_clear_indexes(self):
        self.check(film(3, 1, frame([0, 0, 0]), frame([1, 2, 3], clear=2)), [10] * 3, [11, 10, 13])
        self.check(film(3, 1, frame([0, 1, 2], clear=0), ground=5), [5, 11, 12])
        self.check(film(3, 1, frame([0, 1, 2], clear=255), ground=5), [10, 11, 12])

    def test_indexes_of_no_colour(self):
        self.check(film(3, 1, frame([3, 4, 255]), ground=5), [13, 5, 5])
        self.check(film(2, 1, frame([0, 1]), ground=5, colours=()), [5, 5])

    def test_own_colours(self):
        self.check(film(3, 1, frame([0, 1, 2], own=(40, 41))), [40, 41, 0])
        self.check(film(2, 1, frame([0, 1], own=())), [0, 0])
        self.check(film(2, 1, frame([0, 1], own=(40, 41)), frame([1], own=None)), [40, 41], [11, 41])
        many = tuple(range(100, 355))
        self.check(film(2, 1, frame([254, 255], own=many), ground=5), [354, 5])

    def test_after_0(self):
        self.check(film(2, 1, frame([1]), frame([2], 1)), [11, 0], [11, 12])

    def test_after_1(self):
        found = film(3, 1, frame([0, 1, 2]), frame([3], 1, after=1), frame([3], 2), ground=5)
        self.check(found, [10, 11, 12], [10, 13, 12], [10, 5, 13])
        # Cells that are clear become ground, too; those beyond the canvas do not matter.
        found = film(3, 1, frame([0, 1, 2]), frame([255] * 9, 1, clear=255, after=1), frame([], width=0), ground=5)
        self.check(found, [10, 11, 12], [10, 11, 12], [10, 5, 5])

    def test_after_2(self):
        found = film(3, 1, frame([0, 1, 2]), frame([3], 1, after=2), frame([3], 2), ground=5)
        self.check(found, [10, 11, 12], [10, 13, 12], [10, 11, 13])
        found = film(2, 1, frame([0], after=2), frame([1], 1, after=2), frame([], width=0), ground=5)
        self.check(found, [10, 5], [5, 11], [5, 5])

    def test_each_after_in_turn(self):
        frames = [frame([at % 4], at % 2, after=after) for at, after in enumerate((0, 2, 1, 2, 2, 0, 1, 1, 0))]
        found = film(2, 1, *frames, ground=5)
        self.check(found, *[cells for _, _, cells in plain_compose(found)])

    def test_each_amount_of_work(self):
        found = film(2, 2, frame([0]), frame([1]), frame([2]))
        for left in range(20):
            canvases = plain_compose(found)[:left // 5]
            self.assertEqual(compose(found, left), (canvases, left - 15 if left >= 15 else 0), left)

    def test_delays_mean_nothing(self):
        self.check(film(1, 1, frame([0], delay=0), frame([0], delay=0), frame([1], delay=0)), [10], [10], [11])

    def test_more_than_eight(self):
        found = film(1, 1, *[frame([at % 3]) for at in range(50)])
        self.check(found, *[[10 + at % 3] for at in range(50)])

    def test_drawn_films(self):
        source = drawn(54)
        for _ in range(400):
            found = drawn_film(source)
            cost = len(found[5]) * (1 + found[0] * found[1])
            self.assertEqual(compose(found, cost), (plain_compose(found), 0))

    def test_copies(self):
        check_copies(self, compose, film(2, 1, frame([0]), frame([1], after=1), frame([2], after=2)), 99)


class Pages(unittest.TestCase):
    def pages(self, found):
        """The pages of a film, and the work that was spent behind reading it."""
        data = write_film(found)
        pages, left = film_pages(data, ENOUGH)
        return pages, read_film(data, ENOUGH)[1] - left

    def check(self, found, *expected, composed=None):
        width, height = found[:2]
        grids = [(width, height, list(cells)) for cells in expected]
        composed = len(found[5]) if composed is None else composed
        self.assertEqual(self.pages(found), (grids, composed * (1 + width * height)))
        self.assertEqual(plain_pages(found), grids)

    def test_no_film(self):
        for data in ([], [1, 2, 3], SIGN, SIGN + [0, 1, 0, 0, 0, 0]):
            self.assertEqual(film_pages(data, 50), ([], 50))

    def test_reading_fails(self):
        data = write_film(film(2, 1, frame([0, 1])))
        for left in range(len(data) + 3):
            self.assertEqual(film_pages(data, left), ([], 0))

    def test_no_frames(self):
        self.check(film(2, 2))

    def test_canvases_that_are_seen(self):
        self.check(film(2, 1, frame([0]), frame([1], 1), frame([2])), [10, 0], [10, 11], [12, 11])

    def test_a_delay_of_0(self):
        self.check(film(1, 1, frame([0], delay=0), frame([1], delay=1), frame([2], delay=65535)), [11], [12])
        self.check(film(2, 1, frame([0], delay=0), frame([1], 1)), [10, 11])

    def test_the_last_frame(self):
        self.check(film(1, 1, frame([0], delay=0)), [10])
        self.check(film(1, 1, frame([0], delay=0), frame([1], delay=0), frame([2], delay=0)), [12])
        self.check(film(1, 1, frame([0], delay=1), frame([1], delay=0)), [10], [11])

    def test_canvases_that_are_equal_to_the_one_before(self):
        self.check(film(1, 1, frame([0]), frame([0]), frame([1]), frame([0]), frame([0], delay=0)), [10], [11], [10])
        # The last one that was seen counts, not the last one.
        self.check(film(1, 1, frame([0]), frame([1], delay=0), frame([0])), [10])
        self.check(film(1, 1, frame([0]), frame([1], delay=0), frame([0], delay=0)), [10])
        self.check(film(1, 1, frame([0]), frame([1], delay=0), frame([1])), [10], [11])

    def test_the_ground_is_not_seen(self):
        self.check(film(1, 1, frame([255]), ground=5), [5])
        self.check(film(1, 1, frame([0], after=1), frame([], width=0), ground=5), [10], [5])

    def test_eight_and_more_that_are_seen(self):
        def frames(count):
            return [frame([at % 2]) for at in range(count)]

        cells = [[10 + at % 2] for at in range(8)]
        self.check(film(1, 1, *frames(7)), *cells[:7])
        self.check(film(1, 1, *frames(8)), *cells)
        self.check(film(1, 1, *frames(9)), *cells, composed=8)
        self.check(film(1, 1, *frames(1000)), *cells, composed=8)
        found = film(1, 1, *frames(7), *[frame([3], delay=0)] * 20, frame([1]), frame([0]))
        self.check(found, *cells[:7], [11], composed=28)

    def test_work(self):
        found = film(2, 1, frame([0]), frame([1], delay=0), frame([2]), frame([3]))
        data = write_film(found)
        head = ENOUGH - read_film(data, ENOUGH)[1]
        expected = plain_pages(found)
        self.assertEqual(len(expected), 3)
        for left in range(15):
            count = [0, 1, 1, 2, 3][left // 3]
            self.assertEqual(film_pages(data, head + left), (expected[:count], max(left - 12, 0)))

    def test_composing_that_ends_early_has_no_last_frame(self):
        data = write_film(film(1, 1, frame([0], delay=0), frame([1], delay=0)))
        head = ENOUGH - read_film(data, ENOUGH)[1]
        self.assertEqual(film_pages(data, head + 3), ([], 0))
        self.assertEqual(film_pages(data, head + 4), ([(1, 1, [11])], 0))

    def test_drawn_films(self):
        source = drawn(55)
        for _ in range(300):
            found = drawn_film(source, 14)
            self.assertEqual(self.pages(found)[0], plain_pages(found))

    def test_drawn_bytes(self):
        source = drawn(56)
        for _ in range(300):
            data = changed(source, write_film(drawn_film(source)), 5)
            pages, left = film_pages(data, 4000 + 20 * len(data))
            self.assertGreaterEqual(left, 0)
            self.assertTrue(len(pages) <= 8 and all(is_grid(page) for page in pages))

    def test_copies(self):
        check_copies(self, film_pages, write_film(film(2, 1, frame([0]), frame([1], after=1), frame([2]))), 500)


if __name__ == "__main__":
    unittest.main()
