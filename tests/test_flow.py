import unittest

from stillroom.flow import break_lines
from support import check_copies, drawn


def line(end, *places):
    return places, end


def plain_lines(advances, space, width):
    """Point 134, word by word: a line has no end as long as it is empty."""
    width = max(width, 1)
    lines = [[]]

    def end():
        return lines[-1][-1][3] if lines[-1] else 0

    for word, parts in enumerate(advances):
        gap = 0
        if lines[-1]:
            if end() + space + sum(parts) > width:
                lines.append([])
            else:
                gap = space
        for rune, part in enumerate(parts):
            if lines[-1] and end() + gap + part > width:
                lines.append([])
                gap = 0
            lines[-1].append((word, rune, end() + gap, end() + gap + part))
            gap = 0
    return [(tuple(place[:3] for place in found), found[-1][3]) for found in lines if found]


class Lines(unittest.TestCase):
    def check(self, advances, space, width, *expected):
        self.assertEqual(break_lines(advances, space, width), list(expected))
        if all(advances):
            self.assertEqual(plain_lines(advances, space, width), list(expected))

    def test_no_words(self):
        for width in (-1, 0, 1, 100):
            self.check([], 4, width)

    def test_empty_words(self):
        self.check([[]], 4, 100)
        self.check([[], []], 4, 100)
        self.check([[], [5]], 4, 100, line(5, (1, 0, 0)))
        # Between other words they are put like these: each has a space before it.
        self.check([[5], [], [6]], 4, 100, line(19, (0, 0, 0), (2, 0, 13)))
        self.check([[5], [], [6]], 4, 8, line(5, (0, 0, 0)), line(6, (2, 0, 0)))

    def test_one_word(self):
        self.check([[5]], 4, 100, line(5, (0, 0, 0)))
        self.check([[5, 6, 7]], 4, 100, line(18, (0, 0, 0), (0, 1, 5), (0, 2, 11)))

    def test_words_in_a_line(self):
        self.check([[5, 6], [7], [8]], 4, 100, line(34, (0, 0, 0), (0, 1, 5), (1, 0, 15), (2, 0, 26)))

    def test_a_word_that_fits_exactly(self):
        self.check([[5], [6, 7]], 4, 22, line(22, (0, 0, 0), (1, 0, 9), (1, 1, 15)))
        self.check([[5, 6]], 4, 11, line(11, (0, 0, 0), (0, 1, 5)))

    def test_a_word_that_is_one_too_wide(self):
        self.check([[5], [6, 7]], 4, 21, line(5, (0, 0, 0)), line(13, (1, 0, 0), (1, 1, 6)))
        self.check([[5, 6]], 4, 10, line(5, (0, 0, 0)), line(6, (0, 1, 0)))

    def test_a_word_longer_than_the_width(self):
        self.check([[4, 4, 4, 4, 4]], 4, 10, line(8, (0, 0, 0), (0, 1, 4)), line(8, (0, 2, 0), (0, 3, 4)),
                   line(4, (0, 4, 0)))
        # Behind another word it begins a new line; the next word stands behind its end.
        self.check([[1], [4, 4, 4], [5]], 1, 10, line(1, (0, 0, 0)), line(8, (1, 0, 0), (1, 1, 4)),
                   line(10, (1, 2, 0), (2, 0, 5)))

    def test_runes_wider_than_the_width(self):
        self.check([[20], [30, 1]], 1, 10, line(20, (0, 0, 0)), line(30, (1, 0, 0)), line(1, (1, 1, 0)))

    def test_a_width_less_than_1(self):
        for width in (1, 0, -1, -1000):
            self.check([[1, 0, 1], [1]], 0, width, line(1, (0, 0, 0), (0, 1, 1)), line(1, (0, 2, 0)),
                       line(1, (1, 0, 0)))
            self.check([[0, 0], [0]], 1, width, line(1, (0, 0, 0), (0, 1, 0), (1, 0, 1)))

    def test_a_space_of_0(self):
        self.check([[5], [5]], 0, 10, line(10, (0, 0, 0), (1, 0, 5)))
        self.check([[5], [6]], 0, 10, line(5, (0, 0, 0)), line(6, (1, 0, 0)))

    def test_advances_of_0(self):
        self.check([[0, 0, 0]], 4, 1, line(0, (0, 0, 0), (0, 1, 0), (0, 2, 0)))
        self.check([[5, 0, 0], [0]], 1, 6, line(6, (0, 0, 0), (0, 1, 5), (0, 2, 5), (1, 0, 6)))
        self.check([[5, 0, 0], [0]], 2, 6, line(5, (0, 0, 0), (0, 1, 5), (0, 2, 5)), line(0, (1, 0, 0)))

    def test_a_line_that_begins_with_runes_of_the_advance_0(self):
        # Such a line is not empty: a space and a new line come behind it.
        self.check([[0], [5]], 4, 9, line(9, (0, 0, 0), (1, 0, 4)))
        self.check([[0], [5]], 4, 8, line(0, (0, 0, 0)), line(5, (1, 0, 0)))
        self.check([[0, 20]], 4, 8, line(0, (0, 0, 0)), line(20, (0, 1, 0)))

    def test_many_lines(self):
        self.check([[3]] * 5, 1, 7, line(7, (0, 0, 0), (1, 0, 4)), line(7, (2, 0, 0), (3, 0, 4)), line(3, (4, 0, 0)))

    def test_drawn_words(self):
        source = drawn(57)
        for _ in range(3000):
            advances = [
                [source.randint(0, 6) for _ in range(source.randint(1, 6))] for _ in range(source.randint(0, 8))
            ]
            space, width = source.randint(0, 5), source.randint(-1, 20)
            self.check(advances, space, width, *plain_lines(advances, space, width))

    def test_copies(self):
        check_copies(self, break_lines, [[5, 6], [7], [8]], 4, 20)


if __name__ == "__main__":
    unittest.main()
