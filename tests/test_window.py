import unittest

from stillroom.window import squeeze, unsqueeze
from support import check_copies, check_work, drawn, drawn_bytes


class Reading(unittest.TestCase):
    def check(self, data, expected):
        """Exactly enough work: the bytes of the list, and those that are given."""
        enough = len(data) + len(expected)
        return check_work(self, lambda left: unsqueeze(data, left), enough, expected)

    def test_example(self):
        self.assertEqual(unsqueeze([0, 7, 128, 1, 0], 100), ([7, 7, 7, 7], 91))

    def test_plain_bytes(self):
        self.check([], [])
        self.check([0, 7], [7])
        self.check([127] + list(range(128)), list(range(128)))
        self.check([1, 7, 8, 0, 9], [7, 8, 9])

    def test_broken_off_plain_bytes(self):
        self.check([0], [])
        self.check([127], [])
        self.check([3, 7, 8], [7, 8])

    def test_a_match(self):
        self.check([2, 7, 8, 9, 128, 3, 0], [7, 8, 9, 7, 8, 9])
        self.check([3, 7, 8, 9, 6, 128, 4, 0], [7, 8, 9, 6, 7, 8, 9])

    def test_shortest_and_longest_match(self):
        self.check([0, 7, 128, 1, 0], [7] * 4)
        self.check([0, 7, 129, 1, 0], [7] * 5)
        self.check([0, 7, 255, 1, 0], [7] * 131)

    def test_a_match_that_overlaps_itself(self):
        self.check([1, 7, 8, 130, 2, 0], [7, 8, 7, 8, 7, 8, 7])
        self.check([2, 7, 8, 9, 255, 2, 0], [7, 8, 9] + [8, 9] * 65)
        self.check([2, 7, 8, 9, 130, 3, 0], [7, 8, 9, 7, 8, 9, 7, 8])

    def test_distances(self):
        self.check([2, 7, 8, 9, 128, 0, 0], [7, 8, 9])
        self.check([2, 7, 8, 9, 128, 1, 0], [7, 8, 9, 9, 9, 9])
        self.check([2, 7, 8, 9, 128, 3, 0], [7, 8, 9, 7, 8, 9])
        self.check([2, 7, 8, 9, 128, 4, 0], [7, 8, 9])
        self.check([128, 1, 0], [])
        self.check([128, 0, 0, 0, 5], [5])

    def test_the_lower_byte_of_a_distance_is_first(self):
        start = [127] + list(range(128)) + [127] + list(range(128, 256)) + [0, 77]
        given = list(range(256)) + [77]
        self.check(start + [128, 1, 1], given + [0, 1, 2])
        self.check(start + [128, 0, 1], given + [1, 2, 3])
        self.check(start + [128, 2, 1], given)
        self.check(start + [128, 1, 2], given)

    def test_a_match_behind_a_match_counts_what_was_given(self):
        self.check([0, 7, 128, 1, 0, 0, 8, 129, 5, 0], [7, 7, 7, 7, 8, 7, 7, 7, 7])
        self.check([0, 7, 128, 9, 0, 128, 2, 0], [7])

    def test_broken_off_match(self):
        self.check([0, 7, 128], [7])
        self.check([0, 7, 255, 1], [7])
        self.check([200], [])

    def test_one_less_than_enough(self):
        data = [0, 7, 128, 1, 0, 0, 9]
        self.assertEqual(unsqueeze(data, 12), ([7, 7, 7, 7, 9], 0))
        self.assertEqual(unsqueeze(data, 11), ([7, 7, 7, 7], 0))
        self.assertEqual(unsqueeze(data, 10), ([7], 0))
        self.assertEqual(unsqueeze(data, 7), ([], 0))

    def test_too_little_for_the_first_cost(self):
        self.assertEqual(unsqueeze([0, 7], 1), ([], 0))
        self.assertEqual(unsqueeze([128], 0), ([], 0))
        self.assertEqual(unsqueeze([], 0), ([], 0))

    def test_copies(self):
        check_copies(self, unsqueeze, [1, 7, 8, 130, 2, 0], 50)


def plain_squeeze(data):
    """Point 25, word by word."""
    found = []
    kept = []
    at = 0
    while at < len(data):
        three = data[at:at + 3]
        candidates = []
        if len(three) == 3:
            candidates = [place for place in range(max(0, at - 4096), at) if data[place:place + 3] == three][-16:]
        matches = []
        for place in candidates:
            many = 0
            while many < 130 and at + many < len(data) and data[place + many] == data[at + many]:
                many += 1
            matches.append((many, place))
        if matches:
            many, place = max(matches)
            found += [len(kept) - 1] + kept if kept else []
            kept = []
            found += [many + 125, (at - place) % 256, (at - place) // 256]
            at += many
        else:
            kept.append(data[at])
            at += 1
            if len(kept) == 128:
                found += [127] + kept
                kept = []
    return found + ([len(kept) - 1] + kept if kept else [])


def plain_pieces(data):
    found = []
    for at in range(0, len(data), 128):
        found += [len(data[at:at + 128]) - 1] + data[at:at + 128]
    return found


def unlike(many):
    """Bytes of which no three that stand in a row come twice."""
    found = []
    for high in range(1, 120):
        for low in range(high):
            found += [high, low]
    return found[:many]


class Writing(unittest.TestCase):
    def check(self, data, expected):
        self.assertEqual(squeeze(data), expected)
        self.check_reading(data)

    def check_reading(self, data):
        written = squeeze(data)
        enough = len(written) + len(data)
        less = check_work(self, lambda left: unsqueeze(written, left), enough, data)
        if data:
            self.assertEqual(less, (data[:len(less[0])], 0))
            self.assertLess(len(less[0]), len(data))

    def test_nothing(self):
        self.check([], [])

    def test_a_match(self):
        self.check([7, 8, 9, 1, 7, 8, 9, 1], [3, 7, 8, 9, 1, 129, 4, 0])
        self.check([7, 8, 9, 1, 7, 8, 9, 2], [3, 7, 8, 9, 1, 128, 4, 0, 0, 2])

    def test_candidates_may_go_on_into_what_follows(self):
        self.check([7, 7, 7, 7], [0, 7, 128, 1, 0])
        self.check([7, 8] * 4, [1, 7, 8, 131, 2, 0])

    def test_fewer_than_three_bytes_left(self):
        self.check([7], [0, 7])
        self.check([7, 7], [1, 7, 7])
        self.check([7, 7, 7], [2, 7, 7, 7])
        self.check([7, 8, 9, 7, 8], [4, 7, 8, 9, 7, 8])
        self.check([7, 8, 9, 7, 8, 9], [2, 7, 8, 9, 128, 3, 0])

    def test_of_equally_long_matches_the_nearest(self):
        self.check([7, 8, 9, 1, 7, 8, 9, 2, 7, 8, 9, 3], [3, 7, 8, 9, 1, 128, 4, 0, 0, 2, 128, 4, 0, 0, 3])

    def test_a_longer_match_farther_away(self):
        data = [7, 8, 9, 1, 5, 7, 8, 9, 2, 7, 8, 9, 1]
        self.check(data, [4, 7, 8, 9, 1, 5, 128, 5, 0, 0, 2, 129, 9, 0])

    def test_only_the_16_nearest_places_count(self):
        for others, distance in ((15, 5 + 4 * 15), (16, 4)):
            data = [7, 8, 9, 1, 2]
            for other in range(others):
                data += [7, 8, 9, 100 + other]
            end = [7, 8, 9, 1, 2]
            expected = plain_squeeze(data) + ([130, distance, 0] if others == 15 else [128, 4, 0, 1, 1, 2])
            self.check(data + end, expected)

    def test_places_within_matches_are_candidates(self):
        data = [1] * 40 + [2]
        self.check(data + [1, 1, 1, 2], [0, 1, 164, 1, 0, 0, 2, 129, 4, 0])

    def test_the_places_4096_and_4097_before(self):
        for many, near in ((4092, True), (4093, True), (4094, False), (4095, False)):
            data = [200, 201, 202] + unlike(many) + [200, 201, 202]
            distance = many + 3
            end = [128, distance % 256, distance // 256]
            self.check(data, plain_pieces(data[:-3]) + end if near else plain_pieces(data))

    def test_matches_of_130_bytes_and_more(self):
        start = unlike(200)
        for many in (129, 130, 131, 133, 140):
            data = start + [255] + start[:many] + [254]
            written = squeeze(data)
            self.assertEqual(written, plain_squeeze(data))
            self.assertIn([min(many, 130) + 125, 201, 0], [written[at:at + 3] for at in range(len(written))])
            self.check_reading(data)
        self.check([5] * 131, [0, 5, 255, 1, 0])
        self.check([5] * 132, [0, 5, 255, 1, 0, 0, 5])
        self.check([5] * 134, [0, 5, 255, 1, 0, 128, 1, 0])

    def test_127_to_129_kept_bytes(self):
        data = unlike(300)
        self.check(data[:127], [126] + data[:127])
        self.check(data[:128], [127] + data[:128])
        self.check(data[:129], [127] + data[:128] + [0] + data[128:129])
        self.check(data[:257], [127] + data[:128] + [127] + data[128:256] + [0] + data[256:257])
        self.check(data[:128] + data[:3], [127] + data[:128] + [128, 128, 0])

    def test_drawn_lists(self):
        source = drawn(11)
        for _ in range(200):
            data = drawn_bytes(source, 80, source.choice((1, 2, 4, 255)))
            self.assertEqual(squeeze(data), plain_squeeze(data))
            self.check_reading(data)

    def test_drawn_bytes_can_be_read(self):
        source = drawn(12)
        for _ in range(500):
            data = drawn_bytes(source, 30, source.choice((4, 255)))
            left = source.randint(0, 300)
            found, rest = unsqueeze(data, left)
            self.assertLessEqual(len(found) + rest, left)

    def test_copies(self):
        check_copies(self, squeeze, [1, 2, 3, 1, 2, 3])


if __name__ == "__main__":
    unittest.main()
