import unittest

from stillroom.errors import OutOfRange
from stillroom.runes import rune_bytes, runes
from support import check_copies, drawn

BAD = 65533

# The least and the greatest runes of each length, and those around the barred ones.
EDGES = (
    (0, 1), (1, 1), (127, 1), (128, 2), (2047, 2), (2048, 3), (55295, 3), (57344, 3), (65533, 3), (65535, 3),
    (65536, 4), (1114111, 4),
)


def sequence(number, count):
    """The number in so many bytes, whether this is well-formed or not."""
    first = {2: 192, 3: 224, 4: 240}[count]
    behind = [128 + (number >> 6 * at) % 64 for at in range(count - 2, -1, -1)]
    return [first + (number >> 6 * (count - 1))] + behind


class Reading(unittest.TestCase):
    def check(self, data, *expected):
        self.assertEqual(runes(list(data)), list(expected), data)

    def test_example(self):
        self.check([97, 195, 164, 195, 40], 97, 228, BAD, 40)

    def test_nothing(self):
        self.check([])

    def test_one_byte(self):
        for byte in range(128):
            self.check([byte], byte)

    def test_edges(self):
        for rune, count in EDGES:
            data = list(chr(rune).encode())
            self.assertEqual(len(data), count)
            self.check(data, rune)
            self.check(data * 2 + [65], rune, rune, 65)
            self.check([65] + data, 65, rune)

    def test_too_many_bytes(self):
        for number, count in (
            (0, 2), (127, 2), (0, 3), (127, 3), (128, 3), (2047, 3),
            (0, 4), (128, 4), (2048, 4), (55295, 4), (65535, 4),
        ):
            self.check(sequence(number, count), *[BAD] * count)
            self.check(sequence(number, count) + [65], *[BAD] * count, 65)

    def test_barred_numbers(self):
        for number in (55296, 56000, 57343):
            self.check(sequence(number, 3), BAD, BAD, BAD)
            self.check(sequence(number, 4), BAD, BAD, BAD, BAD)

    def test_numbers_that_are_too_great(self):
        for number in (1114112, 1114113, 2097151):
            self.check(sequence(number, 4), BAD, BAD, BAD, BAD)

    def test_bytes_that_begin_nothing(self):
        for byte in list(range(128, 192)) + list(range(248, 256)):
            self.check([byte], BAD)
            self.check([byte, 128, 128, 128, 128, 128], *[BAD] * 6)
            self.check([byte, 195, 164, 65], BAD, 228, 65)

    def test_broken_off_at_the_end(self):
        for rune, count in EDGES:
            data = list(chr(rune).encode())
            for size in range(1, count):
                self.check(data[:size], *[BAD] * size)
                self.check([65] + data[:size], 65, *[BAD] * size)

    def test_broken_off_within(self):
        for rune, count in EDGES:
            data = list(chr(rune).encode())
            for size in range(1, count):
                for byte in (0, 65, 127):
                    self.check(data[:size] + [byte], *[BAD] * size, byte)
                    self.check(data[:size] + [byte] + data[size:], *[BAD] * size, byte, *[BAD] * (count - size))
                for byte in (192, 240, 255):
                    self.check(data[:size] + [byte], *[BAD] * (size + 1))
                self.check(data[:size] + [195, 164], *[BAD] * size, 228)

    def test_reading_goes_on_at_the_next_byte(self):
        self.check([226, 195, 164], BAD, 228)
        self.check([240, 226, 130, 172], BAD, 8364)
        self.check([240, 144, 226, 130, 172], BAD, BAD, 8364)
        self.check([237, 160, 195, 164], BAD, BAD, 228)
        self.check([192, 65], BAD, 65)
        self.check([195, 164, 164], 228, BAD)

    def test_two_bytes_of_every_kind(self):
        for first in range(256):
            for second in range(0, 256, 5):
                data = bytes([first, second])
                try:
                    expected = [ord(rune) for rune in data.decode()]
                except UnicodeDecodeError:
                    expected = [byte if byte < 128 else BAD for byte in data]
                self.check(data, *expected)

    def test_copies(self):
        check_copies(self, runes, [97, 195, 164, 195, 40])


class Writing(unittest.TestCase):
    def test_edges(self):
        for rune, _ in EDGES:
            self.assertEqual(rune_bytes(rune), list(chr(rune).encode()))

    def test_drawn_runes(self):
        source = drawn(34)
        for _ in range(2000):
            rune = source.choice((source.randint(0, 3000), source.randint(0, 1114111)))
            if 55296 <= rune <= 57343:
                continue
            self.assertEqual(rune_bytes(rune), list(chr(rune).encode()))
            self.assertEqual(runes(rune_bytes(rune)), [rune])

    def test_out_of_range(self):
        for rune in (-1, -128, 55296, 56000, 57343, 1114112, 10 ** 9):
            with self.assertRaises(OutOfRange):
                rune_bytes(rune)

    def test_copies(self):
        check_copies(self, rune_bytes, 8364)
        check_copies(self, rune_bytes, 65)


if __name__ == "__main__":
    unittest.main()
