import unittest

from stillroom.sums import check_sum, digest
from support import check_copies, drawn, drawn_bytes


def sum_bit_by_bit(data):
    bits = [1] * 32
    turn = [3988292384 >> at & 1 for at in range(32)]
    for byte in data:
        for at in range(8):
            bits[at] ^= byte >> at & 1
        for _ in range(8):
            out = bits[0]
            bits = bits[1:] + [0]
            if out:
                bits = [bit ^ other for bit, other in zip(bits, turn)]
    return sum((1 - bit) << at for at, bit in enumerate(bits))


def plain_digest(data):
    number = 14695981039346656037
    for byte in data:
        number = (number ^ byte) * 1099511628211 % 2 ** 64
    return hex(number)[2:].rjust(16, "0")


def with_bits_turned(data, place, turned):
    number = int.from_bytes(bytes(data), "little") ^ turned << place
    return list(number.to_bytes(len(data), "little"))


class CheckSum(unittest.TestCase):
    def test_empty_list(self):
        self.assertEqual(check_sum([]), 0)

    def test_known_sums(self):
        self.assertEqual(check_sum([97]), 3904355907)
        self.assertEqual(check_sum(list(b"123456789")), 0xCBF43926)

    def test_each_byte(self):
        for byte in range(256):
            self.assertEqual(check_sum([byte]), sum_bit_by_bit([byte]))

    def test_drawn_lists(self):
        source = drawn(1)
        for _ in range(100):
            data = drawn_bytes(source, 60)
            self.assertEqual(check_sum(data), sum_bit_by_bit(data))

    def test_lists_that_differ_within_32_bits(self):
        source = drawn(2)
        for _ in range(300):
            data = [source.randint(0, 255) for _ in range(20)]
            turned = source.randint(1, 2 ** 32 - 1)
            other = with_bits_turned(data, source.randint(0, 128), turned)
            self.assertNotEqual(check_sum(data), check_sum(other))

    def test_exclusive_or_of_three_lists(self):
        source = drawn(3)
        for length in (0, 1, 2, 9, 40):
            lists = [[source.randint(0, 255) for _ in range(length)] for _ in range(3)]
            joined = [first ^ second ^ third for first, second, third in zip(*lists)]
            sums = [check_sum(data) for data in lists]
            self.assertEqual(check_sum(joined), sums[0] ^ sums[1] ^ sums[2])

    def test_copies(self):
        check_copies(self, check_sum, [1, 2, 3])


class Digest(unittest.TestCase):
    def test_empty_list(self):
        self.assertEqual(digest([]), "cbf29ce484222325")

    def test_known_digests(self):
        self.assertEqual(digest([97]), "af63dc4c8601ec8c")
        self.assertEqual(digest(list(b"foobar")), "85944171f73967e8")

    def test_always_16_small_digits(self):
        zeros = 0
        for first in range(256):
            for second in range(16):
                data = [first, second, first]
                found = digest(data)
                self.assertEqual(found, plain_digest(data))
                self.assertEqual(len(found), 16)
                self.assertTrue(set(found) <= set("0123456789abcdef"))
                zeros += found.startswith("0")
        self.assertGreater(zeros, 0)

    def test_lists_that_differ_in_one_byte(self):
        source = drawn(4)
        for _ in range(300):
            data = [source.randint(0, 255) for _ in range(source.randint(1, 30))]
            other = list(data)
            other[source.randrange(len(data))] ^= source.randint(1, 255)
            self.assertNotEqual(digest(data), digest(other))

    def test_copies(self):
        check_copies(self, digest, [1, 2, 3])


if __name__ == "__main__":
    unittest.main()
