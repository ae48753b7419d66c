import base64
import unittest

from stillroom.digits import (
    from_base64, from_hex, read_number, read_word, to_base64, to_hex, write_number, write_word,
)
from stillroom.errors import Malformed, OutOfRange
from support import check_copies, check_work, drawn, drawn_bytes


def lists(seed):
    source = drawn(seed)
    return [drawn_bytes(source, 40) for _ in range(100)]


class Hex(unittest.TestCase):
    def test_writing(self):
        self.assertEqual(to_hex([]), [])
        self.assertEqual(to_hex([0, 9, 10, 175, 255]), list(b"00090aafff"))

    def test_reading_what_was_written(self):
        for data in lists(5) + [list(range(256))]:
            self.assertEqual(to_hex(data), list(bytes(data).hex().encode()))
            self.assertEqual(from_hex(to_hex(data), 2 * len(data)), (data, 0))

    def test_example(self):
        self.assertEqual(from_hex([52, 49, 32, 55, 45, 65], 100), ([65, 122], 94))

    def test_small_and_capital_digits(self):
        self.assertEqual(from_hex(list(b"aAfFAbcD09"), 10), ([170, 255, 171, 205, 9], 0))

    def test_each_byte_between(self):
        digits = set(b"0123456789abcdefABCDEF")
        for byte in set(range(256)) - digits:
            self.assertEqual(from_hex([52, byte, 49, byte], 4), ([65], 0))
        for byte in digits:
            self.assertEqual(from_hex([48, byte], 2), ([int(bytes([byte]), 16)], 0))

    def test_odd_digit_at_the_end(self):
        self.assertEqual(from_hex(list(b"414"), 3), ([65], 0))
        self.assertEqual(from_hex(list(b"4"), 3), ([], 2))

    def test_nothing_to_read(self):
        self.assertEqual(from_hex([], 0), ([], 0))
        self.assertEqual(from_hex([32, 71], 5), ([], 3))

    def test_work(self):
        less = check_work(self, lambda left: from_hex(list(b"41 zz 42"), left), 8, [65, 66])
        self.assertEqual(less, ([], 0))

    def test_copies(self):
        check_copies(self, to_hex, [1, 200])
        check_copies(self, from_hex, [52, 49], 9)


class Base64(unittest.TestCase):
    def test_writing(self):
        self.assertEqual(to_base64([]), [])
        self.assertEqual(to_base64([255]), list(b"/w=="))
        self.assertEqual(to_base64([255, 255]), list(b"//8="))
        self.assertEqual(to_base64([251, 239, 190]), list(b"++++"))

    def test_reading_what_was_written(self):
        for data in lists(6) + [list(range(256))]:
            written = to_base64(data)
            self.assertEqual(written, list(base64.b64encode(bytes(data))))
            self.assertEqual(from_base64(written, len(written) + 1), (data, 1))

    def test_other_signs(self):
        self.assertEqual(from_base64(list(b"-_+/"), 4), from_base64(list(b"+/-_"), 4))
        self.assertEqual(from_base64(list(b"-_+/"), 4), ([251, 255, 191], 0))

    def test_each_byte_between(self):
        signs = set(b"ABCDEFGHIJKLMNOPQRSTUVWXYZabcdefghijklmnopqrstuvwxyz0123456789+/-_=")
        for byte in set(range(256)) - signs:
            self.assertEqual(from_base64([byte, 81, byte, 85, byte, 74], 6), ([65, 66], 0))

    def test_without_equals_sign(self):
        self.assertEqual(from_base64(list(b"QUI"), 3), ([65, 66], 0))
        self.assertEqual(from_base64(list(b"QUJDRA"), 6), ([65, 66, 67, 68], 0))

    def test_it_ends_at_the_first_equals_sign(self):
        self.assertEqual(from_base64(list(b"QQ==QUJD"), 8), ([65], 0))
        self.assertEqual(from_base64(list(b"QUI=QUJD=="), 12), ([65, 66], 2))
        self.assertEqual(from_base64(list(b"=QUJD"), 5), ([], 0))

    def test_signs_at_the_end(self):
        self.assertEqual(from_base64(list(b"QUJDR"), 5), ([65, 66, 67], 0))
        self.assertEqual(from_base64(list(b"QUJD//"), 6), ([65, 66, 67, 255], 0))
        self.assertEqual(from_base64(list(b"QUJD///"), 7), ([65, 66, 67, 255, 255], 0))
        self.assertEqual(from_base64(list(b"Q"), 1), ([], 0))

    def test_work(self):
        less = check_work(self, lambda left: from_base64(list(b"QQ==++"), left), 6, [65])
        self.assertEqual(less, ([], 0))
        self.assertEqual(from_base64([], 0), ([], 0))

    def test_copies(self):
        check_copies(self, to_base64, [1, 200])
        check_copies(self, from_base64, list(b"QUJDRA"), 9)


class Words(unittest.TestCase):
    def test_example(self):
        self.assertEqual(write_word([97, 34, 10]), '"a\\22\\0a"')

    def test_no_bytes(self):
        self.assertEqual(write_word([]), '""')
        self.assertEqual(read_word('""'), [])

    def test_each_byte(self):
        for byte in range(256):
            plain = 33 <= byte <= 126 and byte not in (34, 37, 92)
            sign = chr(byte) if plain else "\\%02x" % byte
            self.assertEqual(write_word([byte]), '"' + sign + '"')
            self.assertEqual(read_word('"' + sign + '"'), [byte])

    def test_reading_what_was_written(self):
        for data in lists(7):
            self.assertEqual(read_word(write_word(data)), data)
            self.assertNotIn(" ", write_word(data))
            self.assertNotIn("%", write_word(data))

    def test_escaped_without_need(self):
        for byte in set(range(33, 127)) - {34, 37, 92}:
            self.check_malformed('"\\%02x"' % byte)

    def test_not_escaped_in_spite_of_need(self):
        for code in [34, 37, 92] + list(range(33)) + list(range(127, 300)) + [8364, 128512]:
            self.check_malformed('"' + chr(code) + '"')
            self.check_malformed('"a' + chr(code) + 'b"')

    def test_capital_digits(self):
        for text in ('"\\0A"', '"\\A0"', '"\\FF"', '"\\fF"'):
            self.check_malformed(text)

    def test_no_digits(self):
        for text in ('"\\0g"', '"\\g0"', '"\\ 0"', '"\\-1"', '"\\0x"', '"\\\u0661\u0660"'):
            self.check_malformed(text)

    def test_quotation_marks(self):
        for text in ("", '"', '"a', 'a"', "a", '""a"', '"a""', '"""', '""""', " \"a\"", '"a" ', "ab", "'a'"):
            self.check_malformed(text)

    def test_ends_within_an_escape(self):
        for text in ('"\\', '"\\"', '"\\0', '"\\0"', '"a\\2"', '"a\\22', '"\\22\\'):
            self.check_malformed(text)

    def test_drawn_texts(self):
        source = drawn(8)
        for _ in range(3000):
            text = "".join(source.choice('""\\0a2f%A ') for _ in range(source.randint(0, 7)))
            try:
                data = read_word(text)
            except Malformed:
                continue
            self.assertEqual(write_word(data), text)

    def check_malformed(self, text):
        with self.assertRaises(Malformed, msg=text):
            read_word(text)

    def test_copies(self):
        check_copies(self, write_word, [1, 200])
        check_copies(self, read_word, '"ab"')


class Numbers(unittest.TestCase):
    def test_both_ways(self):
        for number in (0, 1, -1, 9, 10, -10, 120, 10 ** 17, 10 ** 18 - 1, 1 - 10 ** 18):
            self.assertEqual(write_number(number), str(number))
            self.assertEqual(read_number(str(number)), number)

    def test_19_digits(self):
        for number in (10 ** 18, -10 ** 18, 10 ** 19, 10 ** 6000, -10 ** 6000):
            with self.assertRaises(OutOfRange):
                write_number(number)

    def test_malformed_texts(self):
        texts = [
            "", "-", "--1", "07", "00", "-07", "-0", "+1", "+0", " 1", "1 ", "1 2", "- 1", "1-", "1.0", "1e3", "0x1",
            "1_0", "1\n", "a", "1" + "0" * 18, "-1" + "0" * 18, "0" * 19, "9" * 6000, "\u0661", "\u00b2", "-\u0665",
        ]
        for text in texts:
            with self.assertRaises(Malformed, msg=text):
                read_number(text)


if __name__ == "__main__":
    unittest.main()
