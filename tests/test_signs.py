import unittest

from stillroom.signs import KINDS, kind_of, plain_name, possible_kinds
from support import check_copies, drawn

SIGNS = {
    "still": list(b"still 1\n"),
    "picture": [137] + list(b"IMG") + [13, 10],
    "film": list(b"FRM1\n"),
    "sheet": list(b"sheet 1\n"),
}
FOLIO = [37] + list(b"FOL")
CRATE = list(b"CRT1")
END = list(b"CEND") + [0] * 6


class Kinds(unittest.TestCase):
    def check(self, data, kinds, kind):
        self.assertEqual(possible_kinds(data), kinds)
        self.assertEqual(kind_of(data), kind)

    def test_the_kinds(self):
        self.assertEqual(KINDS, ("still", "picture", "film", "sheet", "folio", "crate"))

    def test_the_empty_list(self):
        self.check([], [], "")

    def test_no_kind(self):
        for data in ([1, 2, 3], list(b"still 2\n"), list(b"CRT2"), [37], list(b"CEN"), list(b"crt1")):
            self.check(data, [], "")

    def test_signs_at_the_beginning(self):
        for kind, sign in SIGNS.items():
            self.check(sign, [kind], kind)
            self.check(sign + [0, 7], [kind], kind)

    def test_signs_elsewhere(self):
        for sign in SIGNS.values():
            self.check([0] + sign, [], "")
            self.check([sign[0]] + sign, [], "")

    def test_signs_that_are_not_whole(self):
        for sign in list(SIGNS.values()) + [FOLIO, CRATE]:
            for size in range(len(sign)):
                self.check(sign[:size], [], "")
            for at in range(len(sign)):
                self.check(sign[:at] + [sign[at] ^ 32] + sign[at + 1:], [], "")

    def test_folio_and_crate_signs(self):
        for at in (0, 1, 7, 1022, 1023):
            self.check([9] * at + FOLIO, ["folio"], "folio")
            self.check([9] * at + CRATE, ["crate"], "crate")
        for at in (1024, 1025, 3000):
            self.check([9] * at + FOLIO, [], "")
            self.check([9] * at + CRATE, [], "")

    def test_the_sign_begins_within_the_first_1024_bytes(self):
        self.check([9] * 1023 + FOLIO[:3], [], "")
        self.check([37] * 1023 + FOLIO, ["folio"], "folio")

    def test_folio_and_crate(self):
        both = ["folio", "crate"]
        self.check(FOLIO + CRATE, both, "folio")
        self.check(CRATE + FOLIO, both, "crate")
        self.check([9] * 1019 + FOLIO + CRATE, both, "folio")
        self.check([9] * 1019 + CRATE + FOLIO, both, "crate")
        self.check(FOLIO + CRATE + FOLIO, both, "folio")
        self.check(CRATE + FOLIO + CRATE, both, "crate")

    def test_both_but_the_second_one_too_late(self):
        self.check(FOLIO + [9] * 1020 + CRATE, ["folio"], "folio")
        self.check(CRATE + [9] * 1020 + FOLIO, ["crate"], "crate")

    def test_a_crate_by_its_end_alone(self):
        self.check(END, ["crate"], "crate")
        self.check([9] * 2000 + END + [9] * 2000, ["crate"], "crate")
        self.check(END + FOLIO, ["folio", "crate"], "folio")
        self.check([9] * 1000 + FOLIO + END, ["folio", "crate"], "folio")
        self.check(FOLIO + [9] * 1020 + CRATE + END, ["folio", "crate"], "folio")

    def test_ends_that_are_not_whole(self):
        self.check(END[:9], [], "")
        for at in range(4):
            self.check(END[:at] + [END[at] ^ 32] + END[at + 1:], [], "")
        self.check(list(b"CEND") + [0, 0, 1, 0, 0, 0], [], "")
        self.check([9] + list(b"CEND") + [0, 0, 1, 0, 0, 0], ["crate"], "crate")
        self.check([9] * 255 + list(b"CEND") + [0, 0, 0, 1, 0, 0], [], "")
        self.check([9] * 256 + list(b"CEND") + [0, 0, 0, 1, 0, 0], ["crate"], "crate")
        self.check([9] * 300 + list(b"CEND") + [0, 0, 0, 0, 0, 1], [], "")

    def test_the_first_kinds_go_before_folio_and_crate(self):
        for kind, sign in SIGNS.items():
            self.check(sign + FOLIO, [kind, "folio"], kind)
            self.check(sign + CRATE, [kind, "crate"], kind)
            self.check(sign + CRATE + FOLIO, [kind, "folio", "crate"], kind)
            self.check(sign + END, [kind, "crate"], kind)

    def test_copies(self):
        check_copies(self, possible_kinds, CRATE + FOLIO)
        check_copies(self, kind_of, CRATE + FOLIO)


class Names(unittest.TestCase):
    def check(self, text, expected):
        self.assertEqual(plain_name(list(text)), expected)
        again = list(expected.encode("ascii"))
        self.assertEqual(plain_name(again), expected)

    def test_examples(self):
        self.assertEqual(plain_name([65, 92, 46, 46, 92, 98, 46, 84, 88, 84]), "a/b.txt")
        self.assertEqual(plain_name([46, 46]), "part")

    def test_plain_names(self):
        self.check(b"a", "a")
        self.check(b"a/b/c.txt", "a/b/c.txt")
        self.check(b" a b ", " a b ")
        self.check(b"~!\"#$&'()*+,-.:;<=>?@[]^_`{|}", "~!\"#$&'()*+,-.:;<=>?@[]^_`{|}")

    def test_backslashes(self):
        self.check(b"a\\b", "a/b")
        self.check(b"\\\\a\\/b\\", "a/b")

    def test_dots(self):
        self.check(b".", "part")
        self.check(b"../../a", "a")
        self.check(b"./a/./b/../c", "a/b/c")
        self.check(b"...", "...")
        self.check(b".a/..b/c.", ".a/..b/c.")
        self.check(b". /.. ", ". /.. ")

    def test_empty_parts(self):
        self.check(b"/a//b/", "a/b")

    def test_capital_letters(self):
        self.check(b"AZaz@[`{", "azaz@[`{")

    def test_other_bytes(self):
        for byte in range(256):
            if 65 <= byte <= 90:
                kept = chr(byte + 32)
            elif 32 <= byte <= 126 and byte not in (37, 47, 92):
                kept = chr(byte)
            else:
                kept = "/" if byte in (47, 92) else ""
            self.check([120, byte, 121], "x" + kept + "y")

    def test_parts_that_become_empty_or_dots(self):
        self.check([46, 37, 46], "part")
        self.check([97, 47, 1, 46, 200, 47, 98], "a/b")
        self.check([1, 2, 37, 255], "part")

    def test_nothing_left(self):
        for text in (b"", b"/", b"\\", b"..//./", [0], [37]):
            self.check(text, "part")

    def test_100_characters(self):
        self.check(b"a" * 100, "a" * 100)
        self.check(b"a" * 101, "a" * 100)
        self.check(b"ab" * 300, "ab" * 50)
        self.check(b"a" * 50 + b"/" + b"b" * 49, "a" * 50 + "/" + "b" * 49)
        self.check(b"a" * 50 + b"/" + b"b" * 50, "a" * 50)

    def test_a_later_part_that_would_make_it_longer(self):
        self.check(b"a" * 98 + b"/b/c", "a" * 98 + "/b")
        self.check(b"a" * 60 + b"/" + b"b" * 60 + b"/c", "a" * 60)
        self.check(b"a" * 101 + b"/b", "a" * 100)
        self.check(b"a" * 100 + b"/b", "a" * 100)
        self.check(b"a" * 99 + b"/b", "a" * 99)
        self.check(b"a/" * 80, "/".join("a" * 50))

    def test_left_out_parts_do_not_count(self):
        self.check(b"a" * 98 + b"/.././/" + b"b", "a" * 98 + "/b")
        self.check([200] * 150 + [97], "a")

    def test_drawn_names(self):
        source = drawn(15)
        for _ in range(500):
            data = [source.choice(b"aB/\\.%\x00 ") for _ in range(source.randint(0, 130))]
            name = plain_name(data)
            self.assertEqual(plain_name(list(name.encode("ascii"))), name)
            self.assertLessEqual(len(name), 100)

    def test_copies(self):
        check_copies(self, plain_name, [65, 47, 66])


if __name__ == "__main__":
    unittest.main()
