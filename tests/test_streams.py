import unittest

from stillroom.digits import from_base64, from_hex, to_base64, to_hex
from stillroom.rows import predict, unpredict
from stillroom.runs import from_runs, to_runs
from stillroom.streams import read_stream
from stillroom.window import squeeze, unsqueeze
from folios import NONE, chained, dict_of, items, name, number, stream, text
from support import check_copies, check_work, drawn, drawn_bytes

NAMES = (b"Hex", b"Base", b"Runs", b"Squeeze", b"Rows")
CONTENT = [5, 5, 5, 5, 5, 5, 9, 200, 7, 9, 200, 7, 0, 255, 60, 61]


def filtered(data, *filters, more=()):
    return stream(data, (b"Filter", items(*[name(word) for word in filters])), *more)


def written(word, data, width=1):
    writers = {b"Hex": to_hex, b"Base": to_base64, b"Runs": to_runs, b"Squeeze": squeeze}
    return predict(data, width) if word == b"Rows" else writers[word](data)


def used(word, data, left, width=1):
    """What the reader of a filter returns."""
    readers = {b"Hex": from_hex, b"Base": from_base64, b"Runs": from_runs, b"Squeeze": unsqueeze}
    return unpredict(data, width, left) if word == b"Rows" else readers[word](data, left)


class Reading(unittest.TestCase):
    objects = ((1, NONE),)

    def read(self, value, left=10 ** 6):
        return read_stream((self.objects, 0), value, left)

    def check(self, value, expected, cost):
        """The bytes that are read and the work that this needs."""
        return check_work(self, lambda left: self.read(value, left), cost, expected)

    def check_fails(self, value, cost=0):
        self.assertEqual(self.read(value, 100), (None, 100 - cost))
        self.assertEqual(self.read(value, cost), (None, 0))


class Values(Reading):
    objects = ((1, stream(b"abc")), (2, ("ref", 1)), (3, number(5)), (4, ("ref", 4)))

    def test_a_stream(self):
        self.assertEqual(self.read(stream(b"abc"), 0), ([97, 98, 99], 0))
        self.assertEqual(self.read(stream(b""), 7), ([], 7))

    def test_no_stream(self):
        for value in (
            None, NONE, ("bool", 1), number(5), name(b"Hex"), text(b"abc"), items(stream(b"abc")), dict_of(),
            dict_of((b"A", stream(b"abc"))),
        ):
            self.check_fails(value)

    def test_references(self):
        self.assertEqual(self.check(("ref", 1), [97, 98, 99], 1), (None, 0))
        self.assertEqual(self.check(("ref", 2), [97, 98, 99], 2), (None, 0))
        self.check_fails(("ref", 3), 1)
        self.check_fails(("ref", 9), 1)
        self.check_fails(("ref", 4), 64)

    def test_chains_of_64_and_65(self):
        for steps in (1, 63, 64, 65, 66):
            found = read_stream((chained(steps - 1, stream(b"abc")), 0), ("ref", 1), 100)
            self.assertEqual(found, ([97, 98, 99], 100 - steps) if steps <= 64 else (None, 36))


class Filters(Reading):
    objects = tuple(sorted(
        ((1, name(b"Hex")), (2, NONE), (3, items(name(b"Runs"), ("ref", 1))), (4, ("ref", 1)), (6, number(3)),
         (7, items()), (8, dict_of()), (9, ("ref", 9)))
    ))

    def test_none(self):
        for held in (NONE, items()):
            self.assertEqual(self.read(stream(b"41", (b"Filter", held)), 0), ([52, 49], 0))
        for held, cost in ((("ref", 2), 1), (("ref", 7), 1), (("ref", 99), 1), (("ref", 9), 64)):
            self.check(stream(b"41", (b"Filter", held)), [52, 49], cost)

    def test_no_work_to_follow_the_filter(self):
        for held in (("ref", 1), ("ref", 3), ("ref", 6)):
            self.assertEqual(self.read(stream(b"41", (b"Filter", held)), 0), ([52, 49], 0))

    def test_other_keys(self):
        for word in (b"filter", b"Filters", b"", b"Filte", b"Width"):
            self.assertEqual(self.read(stream(b"41", (word, name(b"Hex"))), 0), ([52, 49], 0))

    def test_a_name(self):
        self.check(stream(b"41", (b"Filter", name(b"Hex"))), [65], 2)
        self.check(stream(b"41", (b"Filter", ("ref", 1))), [65], 3)
        self.check(stream(b"41", (b"Filter", ("ref", 4))), [65], 4)

    def test_names_that_are_no_filters(self):
        for word in (b"", b"hex", b"HEX", b"Hex ", b"He", b"Base64", b"None", b"Row", b"Rows2", b"Squeez", b"\xff"):
            self.check_fails(stream(b"41", (b"Filter", name(word))))
            self.check_fails(filtered(b"41", word))
            self.check_fails(filtered(b"41", b"Hex", word))

    def test_values_that_are_no_filters(self):
        for value in (
            number(1), text(b"Hex"), ("bool", 1), dict_of(), stream(b"Hex"), dict_of((b"Hex", NONE)),
            items(items(name(b"Hex"))),
        ):
            self.check_fails(stream(b"41", (b"Filter", value)))
            self.check_fails(stream(b"41", (b"Filter", items(value))))
            self.check_fails(stream(b"41", (b"Filter", items(name(b"Hex"), value))))
            self.check_fails(stream(b"41", (b"Filter", items(value, name(b"Hex")))))
        self.check_fails(stream(b"41", (b"Filter", items(NONE))))
        self.check_fails(stream(b"41", (b"Filter", ("ref", 6))), 1)
        self.check_fails(stream(b"41", (b"Filter", ("ref", 8))), 1)

    def test_lists_of_4_and_5_items(self):
        self.check(filtered(to_hex(to_hex(to_hex(to_hex([65])))), b"Hex", b"Hex", b"Hex", b"Hex"), [65], 30)
        self.check_fails(filtered(b"41", b"Hex", b"Hex", b"Hex", b"Hex", b"Hex"))
        self.check_fails(stream(b"41", (b"Filter", items(*[("ref", 1)] * 5))))
        self.check_fails(stream(b"41", (b"Filter", items(*[NONE] * 5))))

    def test_items_that_are_references(self):
        self.check(stream(b"41", (b"Filter", items(("ref", 1)))), [65], 3)
        self.check(stream(b"41", (b"Filter", items(("ref", 4)))), [65], 4)
        # Runs give 52 and 49 from five bytes; then Hex reads them.
        self.check(stream([1, 52, 49, 128, 9], (b"Filter", ("ref", 3))), [65], 2 + 5 + 2 + 2)

    def test_items_that_are_followed_to_nothing(self):
        self.check_fails(stream(b"41", (b"Filter", items(("ref", 99)))), 1)
        self.check_fails(stream(b"41", (b"Filter", items(("ref", 2)))), 1)
        self.check_fails(stream(b"41", (b"Filter", items(("ref", 9)))), 64)
        self.check_fails(stream(b"41", (b"Filter", items(name(b"Hex"), ("ref", 6)))), 1)

    def test_all_items_are_followed_before_one_is_looked_at(self):
        self.check_fails(stream(b"41", (b"Filter", items(number(1), ("ref", 4), ("ref", 1)))), 3)

    def test_too_little_work_to_follow_an_item(self):
        value = stream(b"41", (b"Filter", items(name(b"Hex"), ("ref", 4))))
        self.assertEqual(self.read(value, 1), (None, 0))
        self.assertEqual(self.read(value, 0), (None, 0))

    def test_nothing_is_spent_for_filters_before_a_wrong_one(self):
        self.assertEqual(self.read(filtered(b"41", b"Hex", b"Runs", b"x"), 50), (None, 50))


class Use(Reading):
    def test_each_filter(self):
        for word in NAMES:
            data = written(word, CONTENT)
            expected, left = used(word, data, 10 ** 6)
            self.assertEqual(expected, CONTENT)
            for value in (filtered(data, word), stream(data, (b"Filter", name(word)))):
                self.check(value, CONTENT, 10 ** 6 - left)

    def test_each_amount_of_work(self):
        for word in NAMES:
            data = written(word, CONTENT)
            for left in range(60):
                self.assertEqual(self.read(filtered(data, word), left), used(word, data, left))

    def test_two_filters(self):
        for first in NAMES:
            for second in NAMES:
                data = written(first, written(second, CONTENT))
                middle, left = used(first, data, 10 ** 6)
                _, left = used(second, middle, left)
                self.check(filtered(data, first, second), CONTENT, 10 ** 6 - left)

    def test_the_order(self):
        self.assertEqual(self.read(filtered(to_hex(to_runs([1, 2])), b"Hex", b"Runs"))[0], [1, 2])
        self.assertNotEqual(self.read(filtered(to_hex(to_runs([1, 2])), b"Runs", b"Hex"))[0], [1, 2])

    def test_the_next_filter_goes_on_with_what_too_little_work_left(self):
        # Runs give 1 2 3 4 and then 5 5 5, for which nothing is left.
        data = [3, 1, 2, 3, 4, 254, 5]
        self.assertEqual(self.read(filtered(data, b"Runs"), 7 + 4 + 2), ([1, 2, 3, 4], 0))
        self.assertEqual(self.read(filtered(data, b"Runs", b"Hex"), 7 + 4 + 2), ([], 0))
        self.assertEqual(self.read(filtered(data, b"Hex", b"Runs"), 6), ([], 0))
        self.assertEqual(self.read(filtered([], b"Hex", b"Runs", b"Base", b"Rows"), 0), ([], 0))

    def test_drawn_work(self):
        source = drawn(33)
        for _ in range(400):
            words = [source.choice(NAMES) for _ in range(source.randint(0, 4))]
            content = drawn_bytes(source, 20, source.choice((3, 255)))
            data = content
            for word in reversed(words):
                data = written(word, data)
            left = source.randint(0, 300)
            expected = (data, left)
            for word in words:
                expected = used(word, *expected)
            self.assertEqual(self.read(filtered(data, *words), left), expected)
            self.assertEqual(self.read(filtered(data, *words))[0], content)

    def test_copies(self):
        book = (self.objects, 0)
        check_copies(self, read_stream, book, filtered([52, 49], b"Hex"), 50)
        check_copies(self, read_stream, book, stream([52, 49]), 50)


class Widths(Reading):
    objects = ((1, number(4)), (2, ("ref", 1)), (3, text(b"4")), (9, ("ref", 9)))

    def check_width(self, width, counts_as, cost=0):
        data = predict(CONTENT, counts_as)
        more = [] if width is None else [(b"Width", width)]
        self.check(filtered(data, b"Rows", more=more), CONTENT, len(data) + cost)

    def test_integers(self):
        for width in (1, 2, 3, 4, 16, 17, 65536):
            self.check_width(number(width), width)

    def test_no_integer(self):
        for width in (None, NONE, text(b"4"), name(b"4"), ("bool", 1), items(number(4)), dict_of()):
            self.check_width(width, 1)

    def test_beyond_the_bounds(self):
        for width in (0, -1, -2147483647):
            self.check_width(number(width), 1)
        self.check_width(number(65537), 65536)
        self.check_width(number(2147483647), 65536)

    def test_references(self):
        self.check_width(("ref", 1), 4, 1)
        self.check_width(("ref", 2), 4, 2)
        self.check_width(("ref", 3), 1, 1)
        self.check_width(("ref", 5), 1, 1)
        self.check_width(("ref", 9), 1, 64)

    def test_the_width_is_followed_whenever_the_filter_is_used(self):
        data = predict(predict(CONTENT, 4), 4)
        value = filtered(data, b"Rows", b"Rows", more=[(b"Width", ("ref", 2))])
        self.check(value, CONTENT, 2 + len(data) + 2 + len(predict(CONTENT, 4)))
        self.assertEqual(self.read(filtered(data, b"Hex", more=[(b"Width", ("ref", 2))]), len(data))[1], 0)
        self.assertEqual(self.read(stream([7], (b"Width", ("ref", 2))), 0), ([7], 0))

    def test_the_width_is_followed_with_what_the_filter_before_left(self):
        value = filtered(to_hex([1, 2]), b"Hex", b"Rows", more=[(b"Width", ("ref", 1))])
        self.assertEqual(self.read(value, 4 + 1 + 2), ([2], 0))
        self.assertEqual(self.read(value, 4 + 1 + 1), ([], 0))
        self.assertEqual(self.read(value, 4), ([], 0))

    def test_too_little_work_to_follow_the_width(self):
        value = filtered([1, 5], b"Rows", more=[(b"Width", ("ref", 2))])
        self.assertEqual(self.read(value, 1), ([], 0))
        self.assertEqual(self.read(filtered([], b"Rows", more=[(b"Width", ("ref", 2))]), 1), ([], 0))


if __name__ == "__main__":
    unittest.main()
