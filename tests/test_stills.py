import unittest

from stillroom.errors import Malformed
from stillroom.grid import new_grid
from stillroom.stills import read_still, write_still
from stillroom.sums import digest
from support import check_copies, drawn

WHITE = 16777215


def ended(text):
    """The byte list of a text, with the right last line behind it."""
    data = list(text.encode("latin-1"))
    return data + list(f"end {digest(data)}\n".encode())


def drawn_pages(source):
    pages = []
    for _ in range(source.choice((0, 1, 1, 2, 8))):
        width, height = source.choice((1, 2, 5, 64)), source.choice((1, 2, 5, 64))
        colours = [source.choice((0, 1, WHITE, source.randint(0, WHITE))) for _ in range(source.randint(1, 3))]
        pages.append((width, height, [source.choice(colours) for _ in range(width * height)]))
    return pages


class Writing(unittest.TestCase):
    def check(self, pages, text):
        self.assertEqual(write_still(pages), ended(text))
        self.assertEqual(read_still(ended(text)), pages)

    def test_no_page(self):
        self.check([], "still 1\npages 0\n")
        self.assertEqual(len(write_still([])), 37)

    def test_one_page(self):
        self.check([(1, 1, [0])], "still 1\npages 1\npage 1 1\n1x000000\n")
        self.check([(3, 2, [1, 1, WHITE, 0xabcdef, 16, 16])],
                   "still 1\npages 1\npage 3 2\n2x000001 1xffffff\n1xabcdef 2x000010\n")

    def test_stretches(self):
        self.check([(5, 1, [7, 7, 7, 7, 7])], "still 1\npages 1\npage 5 1\n5x000007\n")
        self.check([(5, 1, [7, 8, 7, 8, 8])], "still 1\npages 1\npage 5 1\n1x000007 1x000008 1x000007 2x000008\n")
        # A stretch does not go on in the next row.
        self.check([(2, 2, [7, 8, 8, 8])], "still 1\npages 1\npage 2 2\n1x000007 1x000008\n2x000008\n")

    def test_sides_of_64(self):
        row = "64xffffff\n"
        self.check([new_grid(64, 64, WHITE)], "still 1\npages 1\npage 64 64\n" + 64 * row)
        self.check([new_grid(1, 64, 0)], "still 1\npages 1\npage 1 64\n" + 64 * "1x000000\n")
        self.check([new_grid(64, 1, 0)], "still 1\npages 1\npage 64 1\n64x000000\n")

    def test_eight_and_nine(self):
        page = (1, 1, [5])
        self.check([page] * 8, "still 1\npages 8\n" + 8 * "page 1 1\n1x000005\n")
        for pages in ([page] * 9, [page] * 100):
            with self.assertRaises(Malformed):
                write_still(pages)

    def test_their_order(self):
        first, second = (1, 1, [5]), (2, 1, [6, 7])
        self.check([first, second], "still 1\npages 2\npage 1 1\n1x000005\npage 2 1\n1x000006 1x000007\n")
        self.assertNotEqual(write_still([first, second]), write_still([second, first]))

    def test_pages_that_are_none(self):
        for page in (
            (1, 1, [-1]), (2, 1, [5, -1]), (1, 1, [16777216]), (1, 1, []), (1, 1, [5, 5]), (0, 1, []), (1, 0, []),
            (65, 1, [0] * 65), (1, 65, [0] * 65), (1, 1, (5,)), [1, 1, [5]], (1, 1), (1, 1, [5], 0), None, 5, "page",
            (), (1, 1, [True]), (True, 1, [5]), (1, 1, ["5"]), (1, 1, [None]), (-1, -1, [5]), {}, (1, 1, {0: 5}),
        ):
            for pages in ([page], [(1, 1, [5]), page], [page, (1, 1, [5])]):
                with self.assertRaises(Malformed):
                    write_still(pages)

    def test_unlike_pages_have_unlike_stills(self):
        source = drawn(76)
        found = {}
        for _ in range(300):
            pages = drawn_pages(source)
            data = write_still(pages)
            self.assertEqual(read_still(data), pages)
            self.assertEqual(found.setdefault(tuple(data), pages), pages)
            if pages:
                # One cell of another colour.
                width, height, cells = pages[-1]
                other = pages[:-1] + [(width, height, cells[:-1] + [cells[-1] ^ 1])]
                self.assertNotEqual(write_still(other), data)

    def test_copies(self):
        check_copies(self, write_still, [(2, 1, [5, 6]), (1, 1, [7])])
        check_copies(self, read_still, write_still([(2, 1, [5, 6]), (1, 1, [7])]))


class Reading(unittest.TestCase):
    def check_malformed(self, data):
        with self.assertRaises(Malformed):
            read_still(list(data))

    def check_texts(self, *texts):
        """Texts that are no stills, though their last line is right."""
        for text in texts:
            self.check_malformed(ended(text))

    def test_other_lists(self):
        for data in (b"", b"still 1", b"still 1\n", b"still 1\npages 0\n", b"still 1\npages 0\nend \n", b"still 2\n",
                     b"\n", b"end\n"):
            self.check_malformed(data)
        self.check_malformed(range(256))

    def test_other_heads(self):
        self.check_texts(
            "", "still 1\n", "still 2\npages 0\n", "still 01\npages 0\n", "Still 1\npages 0\n", "still 1 \npages 0\n",
            "still  1\npages 0\n", " still 1\npages 0\n", "still 1\r\npages 0\n", "still 1\n\npages 0\n", "pages 0\n",
            "still 1\npages\n", "still 1\npages \n", "still 1\npages 00\n", "still 1\npages -0\n",
            "still 1\npages  0\n", "still 1\npages 0 \n", "still 1\npages x\n", "still 1\nPages 0\n",
            "still 1\npage 0\n", "still 1\npages 0 0\n", "still 1\npages 0x\n", "still 1\npages +0\n",
            "still 1\npages 0\n\n", "still 1\npages 0\npages 0\n",
        )

    def test_other_numbers_of_pages(self):
        page = "page 1 1\n1x000005\n"
        for count in range(10):
            for told in list(range(10)) + [10, 99, 999999999, 10 ** 12]:
                text = f"still 1\npages {told}\n" + count * page
                if told == count and count <= 8:
                    self.assertEqual(read_still(ended(text)), [(1, 1, [5])] * count)
                else:
                    self.check_texts(text)
        self.check_texts("still 1\npages 01\n" + page, "still 1\npages 1 \n" + page)

    def page(self, text):
        return "still 1\npages 1\n" + text

    def test_other_pages(self):
        for text in (
            "page 0 1\n\n", "page 1 0\n", "page 1\n1x000005\n", "page 1 1 1\n1x000005\n", "page  1 1\n1x000005\n",
            "page 1  1\n1x000005\n", "page 1 1 \n1x000005\n", "page 01 1\n1x000005\n", "page 1 01\n1x000005\n",
            "Page 1 1\n1x000005\n", "page 1 1\n", "page 1 2\n1x000005\n", "page 1 1\n1x000005\n1x000005\n",
            "page 65 1\n65x000005\n", "page 1 65\n" + 65 * "1x000005\n", "page 999999999 1\n999999999x000005\n",
            "page 1 999999999\n1x000005\n", "page 1 99999999999\n1x000005\n", "page -1 1\n1x000005\n",
            "page x 1\n1x000005\n", "page 1 1x\n1x000005\n", "page 1\t1\n1x000005\n", "page 1 1\r\n1x000005\n",
            "1x000005\n", "page 1 1\n\n1x000005\n",
        ):
            self.check_texts(self.page(text))

    def test_other_rows(self):
        for row in (
            "", "1x000005", "3x000005", "1x000005 2x000006", "0x000005 2x000005", "1x000005 1x000005", "2x00005",
            "2x0000005", "2x00000g", "2x00000A", "2X000005", "02x000005", "2 x000005", "2x 000005", " 2x000005",
            "2x000005 ", "1x000005  1x000006", "2x000005\r", "2y000005", "2000005", "x000005", "2x", "2",
            "2x000005 0x000006", "-2x000005", "999999999x000005", "9999999999999x000005", "1x000005,1x000006",
            "2x-00005", "2x+00005", "2x00 005", "1x000005 1x000006 1x000007", "2x0xab", "2x000005x",
        ):
            self.check_texts(self.page(f"page 2 1\n{row}\n"))
        # These are the right ones.
        for row, cells in (("2x000005", [5, 5]), ("1x000005 1x000006", [5, 6]), ("2xabcdef", [0xabcdef] * 2)):
            self.assertEqual(read_still(ended(self.page(f"page 2 1\n{row}\n"))), [(2, 1, cells)])

    def test_two_stretches_of_one_colour_side_by_side(self):
        self.check_texts(self.page("page 3 1\n1x000005 2x000005\n"), self.page("page 3 1\n2x000005 1x000005\n"))
        self.check_texts(self.page("page 2 2\n4x000005\n"), self.page("page 2 2\n3x000005\n1x000005\n"))

    def test_capital_digits(self):
        self.check_texts(self.page("page 1 1\n1xABCDEF\n"), self.page("page 1 1\n1xabcdeF\n"),
                         self.page("page 1 1\n1Xabcdef\n"))

    def test_other_last_lines(self):
        text = "still 1\npages 1\npage 1 1\n1xabcdef\n"
        right = digest(list(text.encode()))
        self.assertTrue(any(sign.isalpha() for sign in right))
        for end in (
            "", "end\n", "end \n", f"end {right}", f"end {right}\n\n", f"end {right} \n", f"end  {right}\n",
            f"{right}\n", f"End {right}\n", f"end {right.upper()}\n", f"end {right[1:]}\n", f"end 0{right}\n",
            f"end 0x{right}\n", f"end {right}\r\n", f"end {right}\nend {right}\n", f"end {right[::-1]}\n",
            f" end {right}\n", f"end {right}x\n", f"end {digest([])}\n",
            f"end {digest(list((text + 'end ').encode()))}\n", f"end {right}\n0", f"end {right}\n\0",
            f"end {int(right, 16)}\n",
        ):
            self.check_malformed((text + end).encode())
        self.assertEqual(read_still(list((text + f"end {right}\n").encode())), [(1, 1, [0xabcdef])])

    def test_bytes_behind_the_end_and_before_the_beginning(self):
        data = write_still([(1, 1, [5])])
        for more in ([10], [32], [0], [37], data, write_still([])):
            self.check_malformed(data + more)
            self.check_malformed(more + data)

    def check_change(self, data, changed):
        """What is changed is no still, or another one."""
        try:
            pages = read_still(changed)
        except Malformed:
            return False
        self.assertNotEqual(changed, data)
        self.assertEqual(write_still(pages), changed)
        return True

    def test_every_change_of_one_byte(self):
        data = write_still([(3, 2, [1, 1, 2, 0xabcdef, 5, 5]), (1, 1, [9])])
        found = 0
        for at in range(len(data) + 1):
            before, behind = data[:at], data[at:]
            for byte in list(range(0, 128)) + [200, 255]:
                found += self.check_change(data, before + [byte] + behind)
                if behind and byte != behind[0]:
                    found += self.check_change(data, before + [byte] + behind[1:])
            if behind:
                found += self.check_change(data, before + behind[1:])
                found += self.check_change(data, before + behind[:1] + behind)
        self.assertEqual(found, 0)

    def test_every_change_of_one_byte_with_a_right_digest(self):
        text = bytes(write_still([(3, 2, [1, 1, 2, 0xabcdef, 5, 5]), (1, 1, [9])])[:-21])
        data = ended(text.decode())
        found = 0
        for at in range(len(text) + 1):
            for byte in b"0123459axFA \n-p":
                for changed in (text[:at] + bytes([byte]) + text[at:], text[:at] + bytes([byte]) + text[at + 1:],
                                text[:at] + text[at + 1:]):
                    if changed != text:
                        found += self.check_change(data, ended(changed.decode()))
        # Other digits of colours.
        self.assertGreater(found, 50)


if __name__ == "__main__":
    unittest.main()
