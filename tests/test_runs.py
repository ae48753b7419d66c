import unittest

from stillroom.runs import from_runs, to_runs
from support import check_copies, check_work, drawn, drawn_bytes


class Reading(unittest.TestCase):
    def check(self, data, expected):
        """Exactly enough work: the bytes of the list, and those that are given."""
        enough = len(data) + len(expected)
        check_work(self, lambda left: from_runs(data, left), enough, expected)

    def test_plain_bytes(self):
        self.check([0, 7], [7])
        self.check([2, 7, 8, 9], [7, 8, 9])
        self.check([127] + list(range(128)), list(range(128)))

    def test_equal_bytes(self):
        self.check([255, 7], [7] * 2)
        self.check([254, 7], [7] * 3)
        self.check([129, 7], [7] * 128)

    def test_the_end(self):
        self.check([128], [])
        self.check([128, 0, 7], [])
        self.check([0, 7, 128, 0, 8, 255, 9], [7])

    def test_reading_ends_behind_the_last_byte(self):
        self.check([], [])
        self.check([0, 7, 255, 8], [7, 8, 8])

    def test_missing_bytes(self):
        self.check([0], [])
        self.check([2, 7], [7])
        self.check([127, 7, 8], [7, 8])
        for count in (129, 200, 255):
            self.check([count], [])
            self.check([0, 7, count], [7])

    def test_each_first_byte(self):
        data = list(range(3, 200))
        for count in range(256):
            if count < 128:
                expected = data[:count + 1]
            else:
                expected = [] if count == 128 else [3] * (257 - count)
            found, _ = from_runs([count] + data[:max(1, count + 1 if count < 128 else 1)], 1000)
            self.assertEqual(found, expected)

    def test_too_little_for_the_first_cost(self):
        self.assertEqual(from_runs([0, 7, 128], 2), ([], 0))
        self.assertEqual(from_runs([128], 0), ([], 0))
        self.assertEqual(from_runs([], 0), ([], 0))

    def test_one_less_than_enough(self):
        data = [1, 7, 8, 254, 9, 0, 4]
        self.assertEqual(from_runs(data, 13), ([7, 8, 9, 9, 9, 4], 0))
        self.assertEqual(from_runs(data, 12), ([7, 8, 9, 9, 9], 0))
        self.assertEqual(from_runs(data, 11), ([7, 8], 0))

    def test_a_piece_that_is_too_much_ends_reading(self):
        self.assertEqual(from_runs([0, 7, 250, 8, 0, 9], 6 + 1 + 6), ([7], 0))
        self.assertEqual(from_runs([250, 8, 0, 9], 4 + 6), ([], 0))

    def test_copies(self):
        check_copies(self, from_runs, [2, 7, 8, 9, 254, 1], 50)


def plain_runs(data):
    """Point 23, word by word."""
    found = []
    at = 0
    while at < len(data):
        stretch = data[at:]
        equal = len(stretch) - len(list(drop_equal(stretch)))
        if equal >= 3:
            many = min(equal, 128)
            found += [257 - many, data[at]]
        else:
            triples = [k for k in range(at, len(data) - 2) if len(set(data[k:k + 3])) == 1]
            many = min([128, len(stretch)] + [k - at for k in triples])
            found += [many - 1] + data[at:at + many]
        at += many
    return found + [128]


def drop_equal(stretch):
    at = 0
    while at < len(stretch) and stretch[at] == stretch[0]:
        at += 1
    return stretch[at:]


class Writing(unittest.TestCase):
    def check(self, data, expected):
        self.assertEqual(to_runs(data), expected)
        self.check_reading(data)

    def check_reading(self, data):
        """The end of the runs costs nothing more than its byte."""
        written = to_runs(data)
        enough = len(written) + len(data)
        less = check_work(self, lambda left: from_runs(written, left), enough, data)
        if data:
            self.assertEqual(less[0], data[:len(less[0])])
            self.assertLess(len(less[0]), len(data))
        self.assertEqual(less[1], 0)

    def test_example(self):
        self.check([5, 5, 5, 5, 1, 2], [253, 5, 1, 1, 2, 128])

    def test_no_bytes(self):
        self.assertEqual(to_runs([]), [128])
        self.assertEqual(from_runs([128], 1), ([], 0))

    def test_two_and_three_equal_bytes(self):
        self.check([5, 5], [1, 5, 5, 128])
        self.check([5, 5, 5], [254, 5, 128])

    def test_128_and_more_equal_bytes(self):
        self.check([5] * 127, [130, 5, 128])
        self.check([5] * 128, [129, 5, 128])
        self.check([5] * 129, [129, 5, 0, 5, 128])
        self.check([5] * 130, [129, 5, 1, 5, 5, 128])
        self.check([5] * 131, [129, 5, 254, 5, 128])

    def test_256_to_300_equal_bytes(self):
        self.check([5] * 256, [129, 5, 129, 5, 128])
        self.check([5] * 257, [129, 5, 129, 5, 0, 5, 128])
        for many in range(256, 301):
            self.assertEqual(to_runs([5] * many), plain_runs([5] * many))
            self.check_reading([5] * many)

    def test_many_unlike_bytes(self):
        unlike = list(range(200)) * 2
        self.check(unlike[:127], [126] + unlike[:127] + [128])
        self.check(unlike[:128], [127] + unlike[:128] + [128])
        self.check(unlike[:129], [127] + unlike[:128] + [0, 128, 128])
        self.check(unlike[:300], [127] + unlike[:128] + [127] + unlike[128:256] + [43] + unlike[256:300] + [128])

    def test_equal_bytes_behind_unlike_ones(self):
        self.check([1, 2, 5, 5, 5], [1, 1, 2, 254, 5, 128])
        self.check([5, 5, 6, 6, 6], [1, 5, 5, 254, 6, 128])
        unlike = list(range(128))
        self.check(unlike + [9] * 3, [127] + unlike + [254, 9, 128])
        self.check(unlike[:127] + [9] * 3, [126] + unlike[:127] + [254, 9, 128])
        self.check(unlike + [200] + [9] * 3, [127] + unlike + [0, 200, 254, 9, 128])

    def test_a_remainder_joins_what_follows(self):
        self.check([5] * 129 + [6, 7], [129, 5, 2, 5, 6, 7, 128])
        self.check([5] * 130 + [6, 6, 6], [129, 5, 1, 5, 5, 254, 6, 128])

    def test_drawn_lists(self):
        source = drawn(9)
        for _ in range(300):
            data = drawn_bytes(source, 60, source.choice((1, 2, 5)))
            self.assertEqual(to_runs(data), plain_runs(data))
            self.check_reading(data)

    def test_drawn_bytes_can_be_read(self):
        source = drawn(10)
        for _ in range(500):
            data = drawn_bytes(source, 30)
            left = source.randint(0, 300)
            found, rest = from_runs(data, left)
            self.assertLessEqual(len(found) + len(data) * (rest > 0) + rest, left)

    def test_copies(self):
        check_copies(self, to_runs, [1, 1, 1, 2])


if __name__ == "__main__":
    unittest.main()
