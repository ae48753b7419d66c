import unittest

from stillroom.crates import open_crate, read_content, write_crate
from stillroom.digits import to_base64, to_hex
from stillroom.errors import Malformed
from stillroom.runs import to_runs
from stillroom.signs import plain_name
from stillroom.sums import check_sum
from stillroom.window import squeeze
from support import check_copies, drawn, drawn_bytes, low

PLENTY = 10 ** 9


def head(name, data, method=0, size=0, total=0, said=None, name_said=None):
    """A head with its name and its data."""
    found = list(b"CRT1") + [method, 0] + low(len(name) if name_said is None else name_said, 2)
    found += low(size, 4) + low(total, 4) + low(len(data) if said is None else said, 4)
    return found + list(name) + list(data)


def record(distance, name, name_said=None):
    return list(b"CDIR") + low(distance, 4) + low(len(name) if name_said is None else name_said, 2) + list(name)


def ending(many, distance):
    return list(b"CEND") + low(many, 2) + low(distance, 4)


def crate(heads, names, places=None, many=None):
    """Heads, a record for each place (those of the heads, if none are given), and the end."""
    written = [byte for part in heads for byte in part]
    if places is None:
        places = [sum(len(part) for part in heads[:at]) for at in range(len(heads))]
    size = sum(10 + len(name) for name in names)
    end = len(written) + size
    for place, name in zip(places, names):
        written += record(end - place, name)
    return written + ending(len(names) if many is None else many, size)


def opened(data):
    return open_crate(data, PLENTY)[0]


def names(data):
    return [entry[0] for entry in opened(data)]


def sound_entry(name, content, method=0):
    coder = {0: list, 1: to_runs, 2: squeeze, 3: to_hex, 4: to_base64}[method]
    return name, method, len(content), check_sum(content), tuple(coder(content))


class Writing(unittest.TestCase):
    def test_no_entries(self):
        self.assertEqual(write_crate([]), [67, 69, 78, 68, 0, 0, 0, 0, 0, 0])

    def test_one_entry(self):
        expected = head(b"a", [97], 0, 1, 3904355907) + record(33, b"a") + ending(1, 11)
        self.assertEqual(len(head(b"a", [97])), 22)
        self.assertEqual(write_crate([("a", 0, 1, 3904355907, (97,))]), expected)

    def test_several_entries(self):
        entries = [("a", 3, 4294967295, 4294967295, (1, 2)), ("b/c", 255, 0, 0, ()), ("a", 0, 65536, 256, (9,) * 300)]
        heads = [
            head(b"a", [1, 2], 3, 4294967295, 4294967295),
            head(b"b/c", [], 255, 0, 0),
            head(b"a", [9] * 300, 0, 65536, 256),
        ]
        self.assertEqual(write_crate(entries), crate(heads, [b"a", b"b/c", b"a"]))

    def test_a_head_of_a_long_name(self):
        entry = ("n" * 100, 1, 2, 3, (4,))
        self.assertEqual(write_crate([entry]), crate([head(b"n" * 100, [4], 1, 2, 3)], [b"n" * 100]))

    def test_names_that_are_not_plain(self):
        for name in (
            "", "A", ".", "..", "a/", "/a", "a//b", "a\\b", "a%b", "a\nb", "\u00e9", "\u0141", "a/../b", "a" * 101,
        ):
            with self.assertRaises(Malformed, msg=name):
                write_crate([(name, 0, 0, 0, ())])
            with self.assertRaises(Malformed, msg=name):
                write_crate([("a", 0, 0, 0, ()), (name, 0, 0, 0, ()), ("b", 0, 0, 0, ())])

    def test_more_than_64_entries(self):
        entries = [("e%d" % number, 0, 0, 0, (number % 256,)) for number in range(1000)]
        written = write_crate(entries)
        self.assertEqual(written[-6:-4], low(1000, 2))
        self.assertEqual(opened(written), entries[:64])

    def test_copies(self):
        check_copies(self, write_crate, [("a", 0, 1, 2, (3,))])


class OpeningWhatWasWritten(unittest.TestCase):
    def test_example(self):
        found = open_crate([7] + write_crate([("a", 0, 1, 3904355907, (97,))]), 100)
        self.assertEqual(found, ([("a", 0, 1, 3904355907, (97,))], 55))

    def test_no_entries(self):
        self.assertEqual(open_crate(write_crate([]), 20), ([], 9))

    def test_behind_and_before_other_bytes(self):
        source = drawn(16)
        for many in list(range(1, 8)) + [63, 64]:
            entries = []
            for number in range(many):
                data = tuple(drawn_bytes(source, 20))
                name = plain_name([source.randint(32, 126) for _ in range(5)]) + str(number)
                entries.append((plain_name(list(name.encode())), source.randint(0, 255), 4294967295 - many, many, data))
            written = write_crate(entries)
            for before in ([], [0], list(b"CRT1"), head(b"x", [1, 2]), written, ending(0, 0)):
                for behind in ([], [0], list(b"CEND"), ending(0, 0)[:9], list(b"CDIR" * 5), ending(1, PLENTY)):
                    data = before + written + behind
                    self.assertEqual(open_crate(data, len(data) + 8), (entries, 7))

    def test_data_that_look_like_parts_of_a_crate(self):
        inner = write_crate([("x", 0, 0, 0, (1,))])
        contents = {"a": inner, "b": ending(1, 0), "c": record(20, b"a")}
        entries = [(name, 0, 1, 1, tuple(data)) for name, data in contents.items()]
        self.assertEqual(opened(write_crate(entries)), entries)

    def test_work(self):
        written = write_crate([("a", 0, 1, 2, (3,))])
        enough = 1 + len(written)
        self.assertEqual(open_crate(written, enough), ([("a", 0, 1, 2, (3,))], 0))
        self.assertEqual(open_crate(written, enough - 1), ([], 0))
        self.assertEqual(open_crate(written, 0), ([], 0))
        self.assertEqual(open_crate([], 1), ([], 0))
        self.assertEqual(open_crate([], 0), ([], 0))

    def test_copies(self):
        check_copies(self, open_crate, write_crate([("a", 0, 1, 2, (3,))]), 500)


class Ends(unittest.TestCase):
    def test_the_end_at_the_greatest_place_counts(self):
        first = crate([head(b"a", [1])], [b"first"])
        second = crate([head(b"b", [2])], [b"second"])
        self.assertEqual(names(first + second), ["second"])
        self.assertEqual(names(first + ending(0, 0)), ["a"])

    def test_a_whole_end_that_is_not_the_last_one(self):
        data = crate([head(b"a", [1])], [b"first"])
        distance = len(data) + 11
        self.assertEqual(names(data + [0] * 10 + ending(1, distance)), ["first"])
        self.assertEqual(names(data + ending(1, len(data))), ["a"])
        self.assertEqual(names(data + ending(1, len(data) + 1)), ["first"])

    def test_the_end_must_lie_within_the_list(self):
        data = crate([head(b"a", [1])], [b"first"])
        self.assertEqual(names(data[:-1]), ["a"])
        self.assertEqual(names(data), ["first"])

    def test_a_distance_of_exactly_the_place(self):
        data = record(0, b"x") + head(b"a", [1])
        self.assertEqual(names(data + ending(1, len(data))), ["a"])
        whole = head(b"a", [1]) + record(22 + 13, b"one")
        self.assertEqual(names(whole + ending(1, 13)), ["one"])
        # The record is the first thing in the list, and its head stands behind it.
        data = record(22, b"one") + head(b"a", [1])
        self.assertEqual(names(data + ending(1, len(data))), ["one"])
        self.assertEqual(names(data + ending(1, len(data) + 1)), ["a"])


class Records(unittest.TestCase):
    def test_as_many_as_the_end_says(self):
        heads = [head(b"a", [1]), head(b"b", [2]), head(b"c", [3])]
        for many in range(5):
            data = crate(heads, [b"x", b"y", b"z"], many=many)
            expected = ["x", "y", "z"][:many] if many else ["a", "b", "c"]
            self.assertEqual(names(data), expected)

    def test_the_name_is_that_of_the_record(self):
        data = crate([head(b"a", [7, 8], 5, 6, 7)], [b"Other\\Name"])
        self.assertEqual(opened(data), [("other/name", 5, 6, 7, (7, 8))])

    def test_records_without_a_name(self):
        self.assertEqual(names(crate([head(b"a", [1])], [b""])), ["part"])
        self.assertEqual(names(crate([head(b"a", [1]), head(b"b", [2])], [b"x", b""])), ["x", "part"])

    def test_long_names(self):
        long = b"n/" * 150 + b"x"
        data = crate([head(long, [1, 2]), head(b"b", [3])], [b"\x01" * 300 + b"y", b"z"])
        self.assertEqual([(entry[0], entry[4]) for entry in opened(data)], [("y", (1, 2)), ("z", (3,))])
        self.assertEqual(opened(head(b"\x01" * 300 + b"y", [1, 2])), [("y", 0, 0, 0, (1, 2))])

    def test_256_records(self):
        heads = [head(b"h", [])] * 256
        data = crate(heads, [b"r%d" % number for number in range(256)])
        self.assertEqual(names(data), ["r%d" % number for number in range(64)])

    def test_reading_stops_before_something_else(self):
        heads = [head(b"a", [1]), head(b"b", [2])]
        data = crate(heads, [b"x", b"y"])
        self.assertEqual(names(data), ["x", "y"])
        data[len(data) - 10 - 11] = 99
        self.assertEqual(names(data), ["x"])
        data[len(data) - 10 - 22] = 99
        self.assertEqual(names(data), ["a", "b"])

    def test_a_record_that_is_broken_off(self):
        heads = head(b"a", [1]) + head(b"b", [2])
        first = record(44 + 11 + 9, b"x")
        for size in range(10):
            rest = record(99, b"")[:size]
            data = heads + record(44 + 11 + size, b"x") + rest
            self.assertEqual(names(data + ending(2, 11 + size)), ["x"])
        self.assertEqual(names(heads + first + [0] * 9 + ending(1, 20)), ["x"])

    def test_a_name_that_does_not_lie_before_the_end(self):
        heads = head(b"a", [1]) + head(b"b", [2])
        for said, expected in ((1, ["x", "y"]), (2, ["x"]), (65535, ["x"])):
            data = heads + record(66, b"x") + record(44, b"y", said)
            self.assertEqual(names(data + ending(2, 22)), expected)

    def test_a_distance_that_is_too_great(self):
        heads = head(b"a", [1]) + head(b"b", [2])
        data = heads + record(67, b"x") + record(44, b"y") + ending(2, 22)
        self.assertEqual(names(data), ["a", "b"])
        data = heads + record(44, b"x") + record(67, b"y") + record(66, b"z") + ending(3, 33)
        self.assertEqual(names(data), ["a", "b"])
        data = heads + record(55, b"x") + record(78, b"y") + record(77, b"z") + ending(3, 33)
        self.assertEqual(names(data), ["x"])

    def test_a_wrong_distance_is_no_entry_and_reading_goes_on(self):
        heads = head(b"a", [1]) + head(b"b", [2])
        data = heads + record(65, b"x") + record(44, b"y") + ending(2, 22)
        self.assertEqual(names(data), ["y"])
        data = heads + record(0, b"x") + record(44, b"y") + ending(2, 22)
        self.assertEqual(names(data), ["y"])

    def test_a_head_that_is_not_whole_or_broken_off(self):
        for wrong in (head(b"a", [1], said=200), head(b"a", [1], name_said=200), head(b"", [])[:19]):
            heads = wrong + head(b"b", [2])
            end = len(heads) + 22
            data = heads + record(end, b"x") + record(22 + 22, b"y") + ending(2, 22)
            self.assertEqual(names(data)[-1], "y", wrong)
            self.assertNotIn("x", names(data))

    def test_data_may_reach_into_the_directory(self):
        first = head(b"a", [], said=11 + 10)
        data = first + record(32, b"x") + ending(1, 11)
        self.assertEqual(opened(data), [("x", 0, 0, 0, tuple(record(32, b"x") + ending(1, 11)))])
        data = head(b"a", [], said=11 + 11) + record(32, b"x") + ending(1, 11)
        self.assertEqual(names(data), ["a"])

    def test_a_head_behind_the_directory(self):
        # The head begins before the end, and its data go on behind the end.
        data = head(b"", [], said=30) + record(30, b"") + ending(1, 10) + [5] * 10
        self.assertEqual(opened(data), [("part", 0, 0, 0, tuple(data[20:50]))])

    def test_the_second_byte_behind_the_method_means_nothing(self):
        data = write_crate([("a", 1, 2, 3, (4,))])
        data[5] = 200
        self.assertEqual(opened(data), [("a", 1, 2, 3, (4,))])


class Search(unittest.TestCase):
    def test_heads_without_a_directory(self):
        data = head(b"A", [1], 2, 3, 4) + head(b"b", [], 5, 6, 7)
        expected = [("a", 2, 3, 4, (1,)), ("b", 5, 6, 7, ())]
        self.assertEqual(opened(data), expected)
        self.assertEqual(opened([9] + data + [9]), expected)
        self.assertEqual(opened(head(b"A", [1], 2, 3, 4) + [9, 67, 82] + head(b"b", [], 5, 6, 7)), expected)

    def test_behind_the_first_1024_bytes(self):
        self.assertEqual(names([9] * 5000 + head(b"a", [1])), ["a"])

    def test_a_head_at_the_end_without_name_and_data(self):
        self.assertEqual(opened(head(b"", [])), [("part", 0, 0, 0, ())])
        self.assertEqual(opened(head(b"", [])[:-1]), [])

    def test_it_goes_on_behind_the_data(self):
        inner = head(b"in", [1])
        self.assertEqual(names(head(b"a", inner) + head(b"b", [])), ["a", "b"])
        self.assertEqual(names(head(b"a", inner, said=0)), ["a", "in"])

    def test_broken_off_data(self):
        data = head(b"a", [1, 2, 3], said=4)
        self.assertEqual(opened(data), [("a", 0, 0, 0, (1, 2, 3))])
        self.assertEqual(opened(head(b"a", [], said=4294967295)), [("a", 0, 0, 0, ())])
        self.assertEqual(opened(data[:-2]), [("a", 0, 0, 0, (1,))])

    def test_heads_that_are_broken_off(self):
        whole = head(b"ab", [])
        self.assertEqual(names(whole), ["ab"])
        for size in range(len(whole)):
            self.assertEqual(names(whole[:size]), [])

    def test_where_no_whole_head_stands_it_goes_on_at_the_next_place(self):
        inner = head(b"in", [1])
        self.assertEqual(names(head(b"a" + bytes(inner), [], name_said=60)), ["in"])
        self.assertEqual(names(list(b"CRT1") + inner), ["in"])
        self.assertEqual(names(list(b"CRTCRT") + inner), ["in"])

    def test_a_list_without_entries(self):
        self.assertEqual(opened([]), [])
        self.assertEqual(opened(list(b"CRT1")), [])
        self.assertEqual(opened([1, 2, 3]), [])


class WhatStays(unittest.TestCase):
    def test_pieces_that_overlap(self):
        inner = head(b"in", [1, 2])
        outer = head(b"out", inner + [9])
        places = [0, len(outer) - len(inner) - 1]
        self.assertEqual(names(crate([outer], [b"x", b"y"], places)), ["x"])
        self.assertEqual(names(crate([outer], [b"y", b"x"], places[::-1])), ["y"])

    def test_pieces_side_by_side(self):
        heads = [head(b"a", [1]), head(b"b", []), head(b"c", [3])]
        self.assertEqual(names(crate(heads, [b"x", b"y", b"z"])), ["x", "y", "z"])
        self.assertEqual(names(crate(heads, [b"x", b"y", b"z"], [43, 22, 0])), ["x", "y", "z"])

    def test_one_byte_in_common(self):
        for said, expected in ((1, ["x", "y"]), (2, ["x"])):
            heads = [head(b"a", [1], said=said), head(b"b", [2])]
            self.assertEqual(names(crate(heads, [b"x", b"y"])), expected)
            heads = [head(b"a", [1], said=said), head(b"b", [2])]
            self.assertEqual(names(crate(heads, [b"y", b"x"], [22, 0])), ["y", "x"] if said == 1 else ["y"])

    def test_overlaps_with_the_last_of_several(self):
        heads = [head(b"a", [1]), head(b"b", head(b"in", [])), head(b"c", [3])]
        inner = len(heads[0]) + 21
        last = len(heads[0]) + len(heads[1])
        for places in ([0, 22, inner, last], [22, 0, inner, last], [last, 22, inner, 0], [last, 0, 22, inner]):
            expected = ["xywz"[at] for at in range(4) if places[at] != inner]
            self.assertEqual(names(crate(heads, [b"x", b"y", b"w", b"z"], places)), expected)

    def test_the_same_head_twice(self):
        self.assertEqual(names(crate([head(b"a", [1])], [b"x", b"y"], [0, 0])), ["x"])

    def test_one_that_was_left_out_takes_no_place(self):
        first = head(b"a", [1])
        third = head(b"c", [])
        second = head(b"b", third)
        wide = head(b"w", first + second)
        places = [21, 43, 0, len(wide)]
        # The wide one overlaps the first: so what lies in its rest only is free.
        data = crate([wide, head(b"z", [])], [b"x", b"y", b"w", b"z"], places)
        self.assertEqual(names(data), ["x", "y", "z"])

    def test_an_equal_name_comes_after_the_overlaps(self):
        outer = head(b"out", head(b"in", [1]))
        # The second one is left out: so it does not replace the first of its name.
        self.assertEqual(opened(crate([outer], [b"x", b"x"], [0, 23]))[0][4], tuple(head(b"in", [1])))

    def test_names_that_become_equal(self):
        heads = [head(b"", [number]) for number in range(4)]
        data = crate(heads, [b"A", b"b", b"./a", b"c"])
        self.assertEqual([(entry[0], entry[4]) for entry in opened(data)], [("b", (1,)), ("a", (2,)), ("c", (3,))])
        by_search = head(b"a", [1]) + head(b"b", [2]) + head(b"A/", [3])
        self.assertEqual([(entry[0], entry[4]) for entry in opened(by_search)], [("b", (2,)), ("a", (3,))])

    def test_names_without_anything(self):
        self.assertEqual(names(head(b"..", [1]) + head(b"", [2]) + head(b"part", [])), ["part"])
        self.assertEqual(opened(head(b"..", [1]) + head(b"", [2]))[0][4], (2,))

    def test_the_first_64_of_those_that_are_left(self):
        heads = [head(b"n%d" % number, [number]) for number in range(70)]
        data = [byte for part in heads for byte in part]
        self.assertEqual(names(data), ["n%d" % number for number in range(64)])
        doubled = head(b"n5", [200]) + data
        self.assertEqual(names(doubled), ["n%d" % number for number in range(64)])
        later = data + head(b"n3", [200])
        self.assertEqual(names(later), ["n%d" % number for number in range(65) if number != 3])
        data = crate(heads, [b"r%d" % number for number in range(70)])
        self.assertEqual(names(data), ["r%d" % number for number in range(64)])

    def test_search_is_not_mixed_with_the_directory(self):
        data = head(b"hidden", [1]) + crate([head(b"a", [2])], [b"x"])
        self.assertEqual(names(data), ["x"])

    def test_drawn_lists(self):
        source = drawn(17)
        for _ in range(300):
            data = write_crate([("a", 0, 1, 2, (3, 4)), ("b", 1, 1, 2, (5,) * 30)])
            for _ in range(source.randint(0, 6)):
                data[source.randrange(len(data))] = source.choice((0, 1, 5, 67, 255))
            data = data[source.randint(0, 3):len(data) - source.choice((0, 0, 1, 12))]
            entries, left = open_crate(data, len(data) + 1)
            self.assertEqual(left, 0)
            for name, method, size, total, found in entries:
                self.assertEqual(plain_name(list(name.encode())), name)
                self.assertIsInstance(found, tuple)
            self.assertEqual(len({entry[0] for entry in entries}), len(entries))


class Content(unittest.TestCase):
    def check_cost(self, entry, content, cost):
        self.assertEqual(read_content(entry, cost), (content, 0))
        self.assertEqual(read_content(entry, cost + 9), (content, 9))
        for less in range(cost):
            self.assertEqual(read_content(entry, less), (None, 0), less)

    def test_each_method(self):
        for content in ([], [7], [7, 8, 9], [7] * 20, [1, 2, 3] * 9):
            for method in range(5):
                entry = sound_entry("a", content, method)
                coded = len(entry[4])
                decoding = len(content) if method in (1, 2) else 0
                self.check_cost(entry, content, 1 + coded + decoding + len(content))

    def test_content_without_bytes(self):
        self.check_cost(("a", 0, 0, 0, ()), [], 1)
        self.check_cost(("a", 1, 0, 0, (128, 5, 5)), [], 4)
        self.check_cost(("a", 1, 0, 0, (200,)), [], 2)
        self.check_cost(("a", 2, 0, 0, (200, 1, 1, 0)), [], 5)
        self.check_cost(("a", 3, 0, 0, (65, 32)), [], 3)
        self.check_cost(("a", 4, 0, 0, (61, 65, 65)), [], 4)

    def test_lenient_readers(self):
        self.check_cost(("a", 3, 1, check_sum([171]), tuple(b"A-b!")), [171], 1 + 4 + 1)
        self.check_cost(("a", 4, 1, check_sum([65]), tuple(b"QQ==x")), [65], 1 + 5 + 1)
        self.check_cost(("a", 1, 2, check_sum([7, 8]), (5, 7, 8)), [7, 8], 1 + 3 + 2 + 2)
        self.check_cost(("a", 2, 4, check_sum([7] * 4), (0, 7, 128, 1, 0)), [7] * 4, 1 + 5 + 4 + 4)

    def test_another_method(self):
        for method in (5, 6, 128, 255):
            for data in ((), (1, 2, 3)):
                self.assertEqual(read_content(("a", method, 0, 0, data), 10), (None, 9))
                self.assertEqual(read_content(("a", method, 0, 0, data), 1), (None, 0))
                self.assertEqual(read_content(("a", method, 0, 0, data), 0), (None, 0))

    def test_a_wrong_size(self):
        for method in range(5):
            _, _, size, total, data = sound_entry("a", [7, 8, 9], method)
            _, left = read_content(("a", method, size, total, data), 100)
            for wrong in (0, 2, 4, 4294967295):
                self.assertEqual(read_content(("a", method, wrong, total, data), 100), (None, left))

    def test_a_wrong_check_sum(self):
        for method in range(5):
            _, _, size, total, data = sound_entry("a", [7, 8, 9], method)
            _, left = read_content(("a", method, size, total, data), 100)
            for wrong in (0, total ^ 1, 4294967295 ^ total):
                self.assertEqual(read_content(("a", method, size, wrong, data), 100), (None, left))

    def test_wrong_and_too_little_work(self):
        self.assertEqual(read_content(("a", 0, 9, 9, (1, 2)), 5), (None, 0))
        self.assertEqual(read_content(("a", 0, 9, 9, (1, 2)), 4), (None, 0))
        self.assertEqual(read_content(("a", 0, 9, 9, (1, 2)), 6), (None, 1))

    def test_what_was_opened(self):
        entries = [sound_entry("m%d" % method, list(b"some content, some content"), method) for method in range(5)]
        found, _ = open_crate(write_crate(entries), PLENTY)
        for entry in found:
            content, _ = read_content(entry, PLENTY)
            self.assertEqual(content, list(b"some content, some content"))

    def test_broken_off_data(self):
        written = head(b"a", [7, 8, 9], 0, 3, check_sum([7, 8, 9]))
        self.assertEqual(read_content(opened(written)[0], 100), ([7, 8, 9], 93))
        self.assertEqual(read_content(opened(written[:-1])[0], 100), (None, 95))

    def test_copies(self):
        for method in range(5):
            check_copies(self, read_content, sound_entry("a", [1, 2, 3], method), 50)


if __name__ == "__main__":
    unittest.main()
