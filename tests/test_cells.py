import unittest

from stillroom.cells import place_name, read_place, read_sheet, write_sheet
from stillroom.errors import Malformed, OutOfRange
from sheeted import ENOUGH, SIGN, content, sheet_of
from support import check_copies, check_work, drawn, drawn_bytes

COLUMNS = "ABCDEFGHIJKLMNOP"
PLACES = [(column, row) for row in range(32) for column in range(16)]


class Places(unittest.TestCase):
    def test_all_names(self):
        names = set()
        for column, row in PLACES:
            name = COLUMNS[column] + str(row + 1)
            self.assertEqual(place_name((column, row)), name)
            self.assertEqual(read_place(name), (column, row))
            names.add(name)
        self.assertEqual(len(names), 512)

    def test_no_places(self):
        for value in (
            (16, 0), (0, 32), (-1, 0), (0, -1), (0,), (0, 0, 0), (), [0, 0], None, 0, "A1", ("A", 1), (0, "1"),
            (True, 0), (0, False), (0, None), ((0, 0),), {0: 0}, (b"A", 0), ((0,), 0), ([], []),
        ):
            with self.assertRaises(OutOfRange):
                place_name(value)

    def test_texts_near_names(self):
        for word in (
            "", "A", "1", "A0", "A01", "A00", "A33", "A100", "A032", "Q1", "@1", "a1", "p32", "AA1", "A1A", "1A", " A1",
            "A1 ", "A 1", "A-1", "A+1", "A1.", "A1\n", "\nA1", "Z9", "A999", "A1234567890123456789", "AB", "P0", "P33",
            "A11111111111", "A\u0661", "\uff211", "A1\u0661", "$A$1", "A:1",
        ):
            with self.assertRaises(Malformed):
                read_place(word)

    def test_every_text_of_one_to_three_signs(self):
        signs = "APQa01239 "
        names = {place_name(place) for place in PLACES}
        for word in [a + b + c for a in [""] + list(signs) for b in signs for c in signs]:
            if word in names:
                self.assertEqual(place_name(read_place(word)), word)
            else:
                with self.assertRaises(Malformed):
                    read_place(word)


class Reading(unittest.TestCase):
    def check(self, data, **cells):
        data = SIGN + list(data.encode("latin-1"))
        expected = sheet_of(**cells)
        below = check_work(self, lambda left: read_sheet(data, left), len(data), expected)
        self.assertEqual(below, (None, 0))

    def test_without_the_sign(self):
        for data in (b"", b"sheet 1", b"sheet 2\nA1 5\n", b"Sheet 1\nA1 5\n", b" sheet 1\nA1 5\n", b"sheet 1\r\nA1 5",
                     b"A1 5\n"):
            for left in (0, 5, 1000):
                self.assertEqual(read_sheet(list(data), left), (None, left))

    def test_the_sign_alone(self):
        self.check("")
        self.check("\n\n")

    def test_cells(self):
        self.check("A1 5\nB2 hello world\nP32 =A1+1\n", A1="5", B2="hello world", P32="=A1+1")

    def test_no_newline_at_the_end(self):
        self.check("A1 5", A1="5")
        self.check("A1 5\nA2 6", A1="5", A2="6")

    def test_row_by_row(self):
        data = SIGN + list(b"A2 1\nB1 2\nA1 3\nP1 4\nA10 5\nB2 6\n")
        places = [place for place, _ in read_sheet(data, ENOUGH)[0]]
        self.assertEqual(places, [(0, 0), (1, 0), (15, 0), (0, 1), (1, 1), (0, 9)])

    def test_all_cells(self):
        lines = [f"{place_name(place)} {at}\n" for at, place in enumerate(PLACES)]
        data = SIGN + list("".join(lines[::-1]).encode())
        found, _ = read_sheet(data, ENOUGH)
        self.assertEqual(found, tuple((place, content(str(at))) for at, place in enumerate(PLACES)))

    def test_lines_without_a_space(self):
        self.check("A1\nA15\nB1:5\nC1\t5\nB2 6\n\nA", B2="6")

    def test_lines_without_a_name(self):
        self.check("A0 5\nA33 5\nQ1 5\na1 5\n A1 5\nA01 5\nA1A 5\n 5\nA 5\n1 5\nAA1 5\nA100 5\n# A1 5\n")

    def test_only_the_first_space(self):
        self.check("A1  5 6 \nA2   \n", A1=" 5 6 ", A2="  ")

    def test_other_bytes(self):
        self.check("A1 \r\nA2 \0\xff%\"\n", A1="\r", A2="\0\xff%\"")

    def test_lengths(self):
        for count in (1, 199, 200, 201, 300):
            self.check(f"A1 {'x' * count}\nA2 y\n", A1="x" * min(count, 200), A2="y")
        self.check("A1 " + "x" * 199 + "yz", A1="x" * 199 + "y")

    def test_empty_contents(self):
        self.check("A1 \nA2 5\n", A2="5")
        self.check("A1 ")

    def test_the_same_place_twice(self):
        self.check("A1 5\nA1 6\n", A1="6")
        self.check("A1 5\nB1 7\nA1 6\nA1 8", A1="8", B1="7")
        # The last line counts, also with an empty content; a line that means nothing does not.
        self.check("A1 5\nA1 \n")
        self.check("A1 5\nA1 \nA1 7\n", A1="7")
        self.check("A1 5\nA1\n", A1="5")

    def test_work(self):
        data = SIGN + list(b"A1 5\n")
        self.assertEqual(read_sheet(data, len(data)), (sheet_of(A1="5"), 0))
        for left in (0, 1, len(data) - 1):
            self.assertEqual(read_sheet(data, left), (None, 0))

    def test_copies(self):
        check_copies(self, read_sheet, SIGN + list(b"A1 5\nA2 6\n"), 100)


class Writing(unittest.TestCase):
    def test_written(self):
        self.assertEqual(write_sheet(()), SIGN)
        found = write_sheet(sheet_of(A1="5", P32="=A1 + 1", B1=" \r\xff"))
        self.assertEqual(bytes(found), b"sheet 1\nA1 5\nB1  \r\xff\nP32 =A1 + 1\n")

    def test_reading_what_was_written(self):
        source = drawn(70)
        for _ in range(300):
            places = source.sample(PLACES, source.randint(0, 6))
            order = sorted(places, key=lambda place: (place[1], place[0]))
            contents = [tuple(byte for byte in drawn_bytes(source, 200) if byte != 10) for _ in order]
            sheet = tuple((place, found) for place, found in zip(order, contents) if found)
            data = write_sheet(sheet)
            self.assertEqual(read_sheet(data, len(data)), (sheet, 0))

    def test_lengths(self):
        for count in (1, 200):
            sheet = (((0, 0), (65,) * count),)
            self.assertEqual(read_sheet(write_sheet(sheet), ENOUGH)[0], sheet)
        for count in (0, 201):
            self.check_malformed((((0, 0), (65,) * count),))

    def check_malformed(self, value):
        with self.assertRaises(Malformed):
            write_sheet(value)

    def test_no_sheets(self):
        cell = ((0, 0), (53,))
        for value in (
            None, 5, "sheet", [], [cell], {}, cell, (cell, None), (5,), ((),), (((0, 0),),), (((0, 0), (53,), 1),),
            ([(0, 0), (53,)],), (((0, 0), [53]),), (((0, 0), "5"),), (((0, 0), b"5"),), (((0, 0), 5),),
            (((0, 0), (256,)),), (((0, 0), (-1,)),), (((0, 0), (True,)),), (((0, 0), ("5",)),), (((0, 0), None),),
            (((16, 0), (53,)),), (((0, 32), (53,)),), (((-1, 0), (53,)),), (((True, 0), (53,)),), (("A1", (53,)),),
            (([0, 0], (53,)),), (((0,), (53,)),),
        ):
            self.check_malformed(value)

    def test_orders(self):
        cells = [((column, row), (53,)) for column, row in ((0, 0), (1, 0), (0, 1))]
        self.assertEqual(bytes(write_sheet(tuple(cells))), b"sheet 1\nA1 5\nB1 5\nA2 5\n")
        for order in ((1, 0), (0, 2, 1), (2, 0), (0, 0), (0, 1, 1)):
            self.check_malformed(tuple(cells[at] for at in order))

    def test_newlines(self):
        for data in ((10,), (53, 10), (10, 53), (53, 10, 53)):
            self.check_malformed((((0, 0), data),))
            self.check_malformed((((0, 0), (53,)), ((1, 0), data)))

    def test_copies(self):
        check_copies(self, write_sheet, sheet_of(A1="5", B1="6"))


if __name__ == "__main__":
    unittest.main()
