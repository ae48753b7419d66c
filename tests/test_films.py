"""What a film is, writing and reading films (points 110 to 113)."""

import unittest

from stillroom.errors import Malformed
from stillroom.films import is_film, read_film, write_film
from stillroom.runs import to_runs
from stillroom.window import squeeze
from filmed import SIGN, block, drawn_film, film, film_bytes, frame, frame_bytes
from support import check_copies, check_work, colour_bytes, drawn, drawn_bytes

ENOUGH = 10 ** 7
END = block("e", [])


class IsFilm(unittest.TestCase):
    def check(self, value, expected):
        self.assertIs(is_film(value), expected, value)

    def check_part(self, at, values, expected):
        """Each of the values in the place of one part of a film."""
        whole = film(2, 2, frame([0, 1]))
        for value in values:
            self.check(whole[:at] + (value,) + whole[at + 1:], expected)

    def check_frame_part(self, at, values, expected):
        whole = (0, 0, 0, 0, None, -1, 0, 0, ())
        for value in values:
            changed = whole[:at] + (value,) + whole[at + 1:]
            self.check(film(2, 2, changed), expected)
            self.check(film(2, 2, whole, changed), expected)

    def test_films(self):
        self.check(film(1, 1, colours=()), True)
        self.check(film(64, 64, frame([0, 1]), frame([], own=()), ground=16777215, turns=65535), True)

    def test_sides(self):
        for at in (0, 1):
            self.check_part(at, (1, 64), True)
            self.check_part(at, (0, -1, 65, True, 1.0, "1", None, (1,)), False)

    def test_colours(self):
        self.check_part(2, (0, 16777215), True)
        self.check_part(2, (-1, 16777216, False, None, "0", (0,)), False)
        self.check_part(3, ((), (0,), (16777215, 0), (5,) * 255), True)
        self.check_part(3, ((5,) * 256, [], [5], None, 5, (-1,), (16777216,), (True,), (None,), ((5,),), "ab"), False)

    def test_turns(self):
        self.check_part(4, (0, 65535), True)
        self.check_part(4, (-1, 65536, True, None, "1"), False)

    def test_frames(self):
        whole = frame([0])
        self.check_part(5, ((), (whole,), (whole,) * 1000), True)
        self.check_part(5, ((whole,) * 1001, [], [whole], None, whole, 5, (None,), ((),), ("abcdefghi",)), False)
        self.check_part(5, ((list(whole),), (whole[:8],), (whole + (0,),), (whole, 5)), False)

    def test_boxes_of_frames(self):
        for at in (0, 1, 2, 3):
            self.check_frame_part(at, (0, 255), True)
            self.check_frame_part(at, (-1, 256, True, None, "0", 0.0), False)

    def test_own_colours(self):
        self.check_frame_part(4, (None, (), (0, 16777215), (5,) * 255), True)
        self.check_frame_part(4, ((5,) * 256, [], [5], 0, False, (-1,), (16777216,), (True,), "", ((),)), False)

    def test_the_clear_index(self):
        self.check_frame_part(5, (-1, 0, 255), True)
        self.check_frame_part(5, (-2, 256, True, None, "0"), False)

    def test_what_happens_behind_a_frame(self):
        self.check_frame_part(6, (0, 1, 2), True)
        self.check_frame_part(6, (-1, 3, True, None, "0"), False)

    def test_delays(self):
        self.check_frame_part(7, (0, 65535), True)
        self.check_frame_part(7, (-1, 65536, True, None, "0"), False)

    def test_indexes(self):
        self.check_frame_part(8, ((0,), [], None, 0, ""), False)
        for indexes, expected in (
            ((0, 255), True), ((0,), False), ((0, 0, 0), False), ((), False), ([0, 0], False), ((0, 256), False),
            ((-1, 0), False), ((True, 0), False), ((0, None), False), ((0, (0,)), False), ("ab", False),
        ):
            for width, height in ((1, 2), (2, 1)):
                self.check(film(2, 2, (0, 0, width, height, None, -1, 0, 0, indexes)), expected)
        self.check(film(2, 2, (9, 9, 255, 255, None, -1, 0, 0, (7,) * 65025)), True)
        self.check(film(2, 2, (9, 9, 255, 0, None, -1, 0, 0, (7,))), False)

    def test_other_forms(self):
        whole = film(2, 2, frame([0, 1]))
        for value in (None, 5, "film", (), [], {}, list(whole), whole[:5], whole + (0,), (whole,), "abcdef"):
            self.check(value, False)

    def test_deep_values(self):
        lists = tuples = 5
        for _ in range(100):
            lists = [lists]
            tuples = (tuples,)
        for deep in (lists, tuples):
            self.check(deep, False)
            for at in range(6):
                self.check_part(at, (deep,), False)
            for at in range(9):
                self.check_frame_part(at, (deep,), False)

    def test_copies(self):
        check_copies(self, is_film, film(2, 2, frame([0, 1], own=(5, 6))))
        check_copies(self, is_film, [1, [2]])


class Writing(unittest.TestCase):
    def check(self, found, expected=None):
        self.assertTrue(is_film(found))
        written = write_film(found)
        if expected is not None:
            self.assertEqual(written, expected)
        self.assertEqual(read_film(written, ENOUGH)[0], found)

    def test_the_least_film(self):
        self.check(film(1, 2, colours=()), list(b"FRM1\n\x01\x02\x00\x00\x00\x00e\x00\x00\x00\x00"))

    def test_colours(self):
        found = film(64, 63, ground=1056816, colours=(1, 16777215))
        self.check(found, SIGN + [64, 63, 16, 32, 48, 2, 0, 0, 1, 255, 255, 255] + END)
        self.check(film(1, 1, colours=range(255)), film_bytes(1, 1, END, colours=range(255)))

    def test_turns(self):
        self.check(film(1, 1, turns=0), film_bytes(1, 1, END))
        self.check(film(1, 1, turns=1), film_bytes(1, 1, [108, 2, 0, 0, 0, 1, 0], END))
        self.check(film(1, 1, turns=65534), film_bytes(1, 1, [108, 2, 0, 0, 0, 254, 255], END))

    def test_a_frame(self):
        found = frame([7, 8, 9, 0, 255, 1], 1, 2, 3, 2, after=2, delay=515)
        data = [1, 2, 3, 2, 0, 2, 0, 3, 2, 0, 0, 7, 8, 9, 0, 255, 1]
        self.check(film(4, 4, found), film_bytes(4, 4, [105, 17, 0, 0, 0] + data, END))

    def test_flags(self):
        for own, clear, flags, clear_byte, count in (
            (None, -1, 0, 0, 0), (None, 0, 2, 0, 0), (None, 255, 2, 255, 0), ((), -1, 1, 0, 0), ((), 7, 3, 7, 0),
            ((5, 1056816), -1, 1, 0, 2), ((5, 1056816), 200, 3, 200, 2),
        ):
            data = frame_bytes(colour_bytes(*own or ()) + [9], flags=flags, clear=clear_byte, delay=1, count=count)
            self.check(film(1, 1, frame([9], own=own, clear=clear)), film_bytes(1, 1, block("i", data), END))

    def test_255_own_colours(self):
        data = frame_bytes(colour_bytes(*range(255)) + [9], flags=1, delay=1, count=255)
        self.check(film(1, 1, frame([9], own=tuple(range(255)))), film_bytes(1, 1, block("i", data), END))

    def test_indexes_that_become_shorter_by_matches(self):
        data = frame_bytes([0, 4, 130, 1, 0], width=6, delay=1, method=2)
        self.check(film(6, 1, frame([4] * 6)), film_bytes(6, 1, block("i", data), END))
        data = frame_bytes([4] * 5, width=5, delay=1)
        self.check(film(6, 1, frame([4] * 5)), film_bytes(6, 1, block("i", data), END))

    def test_a_frame_without_cells(self):
        for width, height in ((0, 0), (255, 0), (0, 255)):
            data = frame_bytes([], width=width, height=height, delay=1)
            found = film(1, 1, frame([], width=width, height=height))
            self.check(found, film_bytes(1, 1, block("i", data), END))

    def test_a_long_block(self):
        source = drawn(51)
        indexes = [source.randint(0, 255) for _ in range(70 * 200)]
        data = frame_bytes(indexes, width=200, height=70, delay=1)
        self.check(film(1, 1, frame(indexes, height=70)), film_bytes(1, 1, block("i", data), END))
        self.check(film(1, 1, frame([at % 251 for at in range(255 * 255)], height=255)))

    def test_1000_frames(self):
        found = film(1, 1, *[frame([at % 7], delay=at) for at in range(1000)])
        blocks = [block("i", frame_bytes([at % 7], delay=at)) for at in range(1000)]
        self.check(found, film_bytes(1, 1, *blocks, END))

    def test_drawn_films(self):
        source = drawn(52)
        for _ in range(300):
            self.check(drawn_film(source))

    def test_no_film(self):
        for value in (
            None, 5, (), "film", list(film(1, 1)), film(0, 1), film(65, 1), film(1, 1, ground=-1),
            film(1, 1, turns=65536), film(1, 1, colours=[1] * 256), film(1, 1, frame([256])),
            film(1, 1, frame([1], delay=65536)),
            film(1, 1, frame([1], after=3)), film(1, 1, frame([1], width=2)), film(1, 1, *[frame([1])] * 1001),
            film(True, 1), film(1, 1)[:5],
        ):
            with self.assertRaises(Malformed):
                write_film(value)

    def test_copies(self):
        check_copies(self, write_film, film(2, 2, frame([0, 1], own=(5, 6)), turns=3))


class Reading(unittest.TestCase):
    def check(self, data, expected, more=0):
        """What is read, for the number of bytes and so much more."""
        self.assertTrue(is_film(expected))
        less = check_work(self, lambda left: read_film(data, left), len(data) + more, expected)
        self.assertTrue(more or less == (None, 0))
        return less

    def check_fails(self, data):
        for left in (0, 1, 5000):
            self.assertEqual(read_film(data, left), (None, left))


class Heads(Reading):
    def test_other_beginnings(self):
        rest = film_bytes(1, 1, END)[5:]
        for sign in ([], SIGN[:4], SIGN[1:], [0] + SIGN, list(b"FRM2\n"), list(b"FRM1\r"), list(b"frm1\n")):
            self.check_fails(sign)
            self.check_fails(sign + rest)

    def test_missing_bytes(self):
        data = film_bytes(1, 1, colours=())
        self.assertEqual(len(data), 11)
        for size in range(11):
            self.check_fails(data[:size])
        self.check(data, film(1, 1, colours=()))

    def test_sides(self):
        for side in (0, 65, 255):
            self.check_fails(film_bytes(side, 1, END))
            self.check_fails(film_bytes(1, side, END))
        self.check(film_bytes(64, 64, END), film(64, 64))

    def test_too_little_work(self):
        data = film_bytes(3, 2, END)
        for left in range(len(data)):
            self.assertEqual(read_film(data, left), (None, 0))
        self.check(data, film(3, 2))

    def test_colours(self):
        data = film_bytes(1, 1, ground=1056816, colours=(1, 16777215))
        self.check(data, film(1, 1, ground=1056816, colours=(1, 16777215)))

    def test_colours_that_are_broken_off(self):
        whole = film_bytes(1, 1, colours=(10, 11, 12))
        for size in range(11, len(whole) + 1):
            self.check(whole[:size], film(1, 1, colours=(10, 11, 12)[:(size - 11) // 3]))
        # What stands behind them belongs to the last colours that are said.
        self.check(film_bytes(1, 1, block("l", [5, 0]), colours=(10,), count=4), film(1, 1, colours=(10, 7078400, 5)))
        self.check(film_bytes(1, 1, block("l", [5, 0]), colours=(10,), count=255), film(1, 1, colours=(10, 7078400, 5)))


class Blocks(Reading):
    def test_no_blocks(self):
        self.check(film_bytes(1, 1), film(1, 1))

    def test_blocks_of_another_kind(self):
        turns = block("l", [5, 0])
        for kind in "\0aEILxj\xff":
            self.check(film_bytes(1, 1, block(kind, [1] * 20), turns, END), film(1, 1, turns=5))
            self.check(film_bytes(1, 1, block(kind, []), turns, END), film(1, 1, turns=5))

    def test_behind_the_end(self):
        turns = block("l", [5, 0])
        self.check(film_bytes(1, 1, turns, END, block("l", [6, 0])), film(1, 1, turns=5))
        self.check(film_bytes(1, 1, turns, block("e", [1, 2, 3]), block("l", [6, 0])), film(1, 1, turns=5))
        self.check(film_bytes(1, 1, END, block("i", frame_bytes([0]))), film(1, 1))
        self.check(film_bytes(1, 1, turns, block("e", [], 999), block("l", [6, 0])), film(1, 1, turns=5))

    def test_without_an_end(self):
        self.check(film_bytes(1, 1, block("l", [5, 1])), film(1, 1, turns=261))

    def test_turns(self):
        self.check(film_bytes(1, 1, block("l", [5, 1, 9, 9])), film(1, 1, turns=261))
        self.check(film_bytes(1, 1, block("l", [255, 255])), film(1, 1, turns=65535))
        for short in ([], [5]):
            self.check(film_bytes(1, 1, block("l", short), END), film(1, 1))
            self.check(film_bytes(1, 1, block("l", [7, 0]), block("l", short), END), film(1, 1, turns=7))

    def test_turns_twice(self):
        self.check(film_bytes(1, 1, block("l", [5, 0]), block("l", [6, 0]), END), film(1, 1, turns=6))
        self.check(film_bytes(1, 1, block("l", [5, 0]), block("l", [0, 0]), END), film(1, 1))

    def test_blocks_that_are_broken_off(self):
        whole = film_bytes(1, 1, block("l", [5, 1]))
        for size in range(len(whole)):
            if size >= len(whole) - 7:
                self.check(whole[:size], film(1, 1))
        self.check(film_bytes(1, 1, block("l", [5, 1], 4000000000)), film(1, 1, turns=261))
        self.check(film_bytes(1, 1, block("l", [5], 2)), film(1, 1))

    def test_the_bytes_of_a_block_that_are_there_count(self):
        data = frame_bytes([3], width=2)
        self.check(film_bytes(2, 1, block("i", data, 13)), film(2, 1, frame([3, 255], delay=0)), 3)
        self.check(film_bytes(2, 1, block("i", data[:11], 13)), film(2, 1, frame([255, 255], delay=0)), 3)
        for size in range(11):
            self.check(film_bytes(2, 1, block("i", data[:size], 13)), film(2, 1))

    def test_frames_that_are_too_short(self):
        data = frame_bytes([3])
        for size in range(11):
            self.check(film_bytes(1, 1, block("i", data[:size]), block("l", [5, 0])), film(1, 1, turns=5))
        self.check(film_bytes(1, 1, block("i", data[:11])), film(1, 1, frame([255], delay=0)), 2)

    def test_the_last_block_of_a_length(self):
        # The second length byte counts 256, and so on.
        filler = [0] * 257
        self.check(film_bytes(1, 1, block("x", filler), block("l", [5, 0])), film(1, 1, turns=5))
        filler = [0] * 65536
        self.check(film_bytes(1, 1, block("x", filler), block("l", [5, 0])), film(1, 1, turns=5))

    def test_more_than_1000_frames(self):
        blocks = [block("i", frame_bytes([at % 5])) for at in range(1003)]
        expected = [frame([at % 5], delay=0) for at in range(1000)]
        turns = block("l", [5, 0])
        self.check(film_bytes(1, 1, *blocks[:1000]), film(1, 1, *expected), 2000)
        self.check(film_bytes(1, 1, *blocks[:1000], turns), film(1, 1, *expected), 2000)
        self.check(film_bytes(1, 1, *blocks[:999], turns, *blocks[999:]), film(1, 1, *expected, turns=5), 2000)
        self.check(film_bytes(1, 1, *blocks), film(1, 1, *expected), 2000)


class Frames(Reading):
    def check_frame(self, data, expected, more=None):
        """A film with this frame and another one behind it."""
        cost = 1 + expected[2] * expected[3]
        found = film_bytes(3, 3, block("i", data), block("i", frame_bytes([1])), END)
        return self.check(found, film(3, 3, expected, frame([1], delay=0)), cost + 2 + (more or 0))

    def test_each_part(self):
        data = [7, 8, 2, 1, 0, 2, 0, 3, 2, 0, 0, 4, 5]
        self.check_frame(data, frame([4, 5], 7, 8, after=2, delay=515))
        self.check_frame([255, 255] + data[2:7] + [255, 255, 0, 0, 4, 5], frame([4, 5], 255, 255, after=2, delay=65535))

    def test_the_cost(self):
        blocks = [frame_bytes([1, 2], width=2), frame_bytes([3] * 9, width=3, height=3)]
        data = film_bytes(3, 3, *[block("i", part) for part in blocks])
        expected = film(3, 3, frame([1, 2], delay=0), frame([3] * 9, height=3, delay=0))
        self.assertEqual(self.check(data, expected, 3 + 10), (None, 0))
        for left in range(3 + 10):
            self.assertEqual(read_film(data, len(data) + left), (None, 0))

    def test_the_cost_of_a_great_frame(self):
        data = film_bytes(1, 1, block("i", frame_bytes([], width=255, height=255)))
        self.assertEqual(self.check(data, film(1, 1, frame([255] * 65025, height=255, delay=0)), 65026), (None, 0))

    def test_an_after_greater_than_2(self):
        for after in range(256):
            data = frame_bytes([4], after=after)
            self.check_frame(data, frame([4], after=after if after < 3 else 0, delay=0))

    def test_each_flag(self):
        for flags in list(range(16)) + [128, 248, 250, 255]:
            own = (5, 6) if flags & 1 else None
            clear = 9 if flags & 2 else -1
            order = [4, 5, 6] if not flags & 4 else [4, 6, 5]
            data = frame_bytes((colour_bytes(5, 6) if own else []) + [4, 5, 6], height=3, flags=flags, clear=9, count=2)
            self.check_frame(data, frame(order, width=1, height=3, own=own, clear=clear, delay=0))

    def test_the_clear_index(self):
        for clear in (0, 1, 255):
            self.check_frame(frame_bytes([4], flags=2, clear=clear), frame([4], clear=clear, delay=0))
            self.check_frame(frame_bytes([4], flags=0, clear=clear), frame([4], delay=0))

    def test_no_own_colours_whatever_their_number_is(self):
        for count in (0, 1, 2, 255):
            data = frame_bytes([4, 5, 6, 7], width=3, count=count)
            self.check_frame(data, frame([4, 5, 6], delay=0))

    def test_own_colours(self):
        self.check_frame(frame_bytes([4], flags=1), frame([4], own=(), delay=0))
        many = tuple(range(255))
        self.check_frame(frame_bytes(colour_bytes(*many) + [4], flags=1, count=255), frame([4], own=many, delay=0))

    def test_own_colours_that_are_broken_off(self):
        whole = colour_bytes(5, 1056816, 7)
        for size in range(len(whole) + 1):
            data = frame_bytes(whole[:size], flags=1, count=3)
            self.check_frame(data, frame([255], own=(5, 1056816, 7)[:size // 3], delay=0))
        self.check_frame(frame_bytes(whole, flags=1, count=2), frame([0], own=(5, 1056816), delay=0))

    def test_method_1(self):
        data = to_runs([3, 3, 3, 3, 1, 2])
        self.check_frame(frame_bytes(data, width=6, method=1), frame([3, 3, 3, 3, 1, 2], delay=0), len(data) + 6)

    def test_method_2(self):
        data = squeeze([1, 2, 3] * 3)
        self.assertLess(len(data), 9)
        expected = frame([1, 2, 3] * 3, height=3, delay=0)
        self.check_frame(frame_bytes(data, width=3, height=3, method=2), expected, len(data) + 9)

    def test_other_methods(self):
        for method in (3, 4, 255):
            self.check_frame(frame_bytes([1, 2], width=2, method=method), frame([255, 255], delay=0))

    def test_too_little_work_for_the_method(self):
        runs = [1, 4, 5, 254, 6, 0, 7]
        data = film_bytes(3, 2, block("i", frame_bytes(runs, width=3, height=2, method=1)), END)
        head = len(data) + 7
        for more, indexes in (
            (0, [255] * 6), (6, [255] * 6), (7, [255] * 6), (8, [255] * 6), (9, [4, 5] + [255] * 4),
            (11, [4, 5] + [255] * 4), (12, [4, 5, 6, 6, 6, 255]), (13, [4, 5, 6, 6, 6, 7]),
        ):
            found = film(3, 2, frame(indexes, height=2, delay=0))
            self.assertEqual(read_film(data, head + more), (found, 0))
        # A frame behind one that left nothing cannot be read.
        data = film_bytes(3, 2, *[block("i", frame_bytes(runs, width=3, height=2, method=1))] * 2)
        self.assertEqual(read_film(data, len(data) + 7 + 12), (None, 0))
        self.assertEqual(read_film(data, len(data) + 7 + 13 + 6), (None, 0))
        found = (film(3, 2, frame([4, 5, 6, 6, 6, 7], height=2, delay=0), frame([255] * 6, height=2, delay=0)), 0)
        self.assertEqual(read_film(data, len(data) + 7 + 13 + 7), found)

    def test_missing_and_too_many_indexes(self):
        self.check_frame(frame_bytes([4, 5, 6], width=2, height=2), frame([4, 5, 6, 255], height=2, delay=0))
        self.check_frame(frame_bytes([], width=2, height=2), frame([255] * 4, height=2, delay=0))
        self.check_frame(frame_bytes([4, 5, 6, 7, 8], width=2, height=2), frame([4, 5, 6, 7], height=2, delay=0))

    def test_frames_without_cells(self):
        for width, height in ((0, 0), (0, 9), (9, 0)):
            for flags in (0, 4):
                data = frame_bytes([4, 5], width=width, height=height, flags=flags)
                self.check_frame(data, frame([], width=width, height=height, delay=0))

    def test_four_passes(self):
        orders = {
            1: [0], 2: [0, 1], 3: [0, 2, 1], 4: [0, 2, 1, 3], 5: [0, 4, 2, 1, 3], 6: [0, 4, 2, 1, 3, 5],
            7: [0, 4, 2, 6, 1, 3, 5], 8: [0, 4, 2, 6, 1, 3, 5, 7], 9: [0, 8, 4, 2, 6, 1, 3, 5, 7],
        }
        for height, order in orders.items():
            for width in (1, 3):
                samples = [at for at in range(height) for _ in range(width)]
                indexes = [order.index(row) for row in range(height) for _ in range(width)]
                data = frame_bytes(samples, width=width, height=height, flags=4)
                self.check_frame(data, frame(indexes, width=width, height=height, delay=0))

    def test_four_passes_of_many_rows(self):
        order = [*range(0, 30, 8), *range(4, 30, 8), *range(2, 30, 4), *range(1, 30, 2)]
        data = frame_bytes(range(30), height=30, flags=4)
        self.check_frame(data, frame([order.index(row) for row in range(30)], width=1, height=30, delay=0))

    def test_four_passes_with_missing_indexes(self):
        data = frame_bytes([7, 7, 8, 8, 9], width=2, height=5, flags=4)
        self.check_frame(data, frame([7, 7, 255, 255, 9, 255, 255, 255, 8, 8], height=5, delay=0))

    def test_drawn_bytes(self):
        source = drawn(53)
        for _ in range(600):
            blocks = []
            for _ in range(source.randint(0, 4)):
                data = drawn_bytes(source, 40, source.choice((5, 255)))
                blocks.append(block(source.choice("iiilex"), data, source.choice((None, None, 20))))
            data = film_bytes(source.randint(0, 9), source.randint(1, 65), *blocks, count=source.choice((4, 5, 2)))
            left = source.choice((source.randint(0, 3000), ENOUGH))
            found, after = read_film(data, left)
            self.assertTrue(0 <= after <= left)
            if found is not None:
                self.assertTrue(is_film(found))
                self.assertEqual(read_film(write_film(found), ENOUGH)[0], found)

    def test_copies(self):
        data = film_bytes(3, 3, block("i", frame_bytes(colour_bytes(5) + [1, 2], width=2, flags=1, count=1)), END)
        check_copies(self, read_film, data, 500)


if __name__ == "__main__":
    unittest.main()
