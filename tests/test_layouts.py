"""Layouts of drawn books, compared with part 7 word by word."""

import unittest

from stillroom.pages import lay_out
from stillroom.values import is_book
from layouts import ENOUGH
from plain_layout import Drawer, plain_lay_out
from support import drawn


class Drawn(unittest.TestCase):
    def test_drawn_books(self):
        source = drawn(90)
        drawer = Drawer(source)
        kinds = set()
        for _ in range(300):
            book = drawer.book()
            self.assertTrue(is_book(book))
            # Enough for nearly all, but not for shapes that multiply too much.
            most = 20000
            found = lay_out(book, most)
            self.assertEqual(found, plain_lay_out(book, most))
            for _, _, _, marks, acts in found[0]:
                kinds |= {kind for kind, _ in acts} | {mark[0] for mark in marks}
            for _ in range(4):
                work = source.randint(0, most - found[1] + 1)
                self.assertEqual(lay_out(book, work), plain_lay_out(book, work))
        self.assertEqual(kinds, {"fill", "image", "open", "file", "link", "form", "fetch", "script"})

    def test_every_amount_of_work(self):
        source = drawn(91)
        drawer = Drawer(source)
        for _ in range(6):
            book = drawer.book()
            cost = min(ENOUGH - lay_out(book, ENOUGH)[1], 1500)
            for work in range(cost + 2):
                self.assertEqual(lay_out(book, work), plain_lay_out(book, work), work)


if __name__ == "__main__":
    unittest.main()
