"""Promise 2, as far as it speaks of gr_place."""

import unittest

from singlechange.changerows import gr_digit_place, gr_digits, gr_order, gr_place, gr_set, gr_word
from tests.rows import (
    LARGEST_NUMBER, LARGEST_PLACE, SMALLEST_NUMBER,
    is_list_of_whole_numbers, place_in_long_row_of_words, row_of_words, spread_places,
)

LARGEST_WORD = LARGEST_PLACE
WRONG_N = (0, 64, 65, -1, -63, SMALLEST_NUMBER, SMALLEST_NUMBER + 1, LARGEST_NUMBER - 1, LARGEST_NUMBER)


class PlacesOfWords(unittest.TestCase):
    def test_row_written_out(self):
        row = [0, 1, 3, 2, 6, 7, 5, 4]
        self.assertEqual([gr_place(3, word) for word in row], [[0, i] for i in range(8)])

    def test_every_word_of_short_rows(self):
        for n in range(1, 13):
            row = row_of_words(n)
            self.assertEqual(sorted(row), list(range(2 ** n)))
            for i, word in enumerate(row):
                self.assertEqual(gr_place(n, word), [0, i], (n, word))

    def test_words_beyond_short_rows(self):
        for n in range(1, 11):
            for word in range(2 ** n, 2 ** (n + 2) + 2):
                self.assertEqual(gr_place(n, word), [-3], (n, word))

    def test_spread_words_of_every_row(self):
        for n in range(1, 64):
            for word in spread_places(2 ** n):
                self.assertEqual(gr_place(n, word), [0, place_in_long_row_of_words(n, word)], (n, word))


class WordsBackAndForth(unittest.TestCase):
    def test_at_every_place_of_short_rows(self):
        for n in range(1, 13):
            for i in range(2 ** n):
                self.assertEqual(gr_place(n, gr_word(n, i)[1]), [0, i], (n, i))

    def test_at_spread_places_of_every_row(self):
        for n in range(1, 64):
            for i in spread_places(2 ** n):
                self.assertEqual(gr_place(n, gr_word(n, i)[1]), [0, i], (n, i))

    def test_from_spread_words_of_every_row(self):
        for n in range(1, 64):
            for word in spread_places(2 ** n):
                self.assertEqual(gr_word(n, gr_place(n, word)[1]), [0, word], (n, word))


class WordPlaceEdges(unittest.TestCase):
    def test_one_bit(self):
        self.assertEqual(gr_place(1, 0), [0, 0])
        self.assertEqual(gr_place(1, 1), [0, 1])
        self.assertEqual(gr_place(1, 2), [-3])
        self.assertEqual(gr_place(1, 3), [-3])
        self.assertEqual(gr_place(1, 18446744073709551615), [-3])

    def test_sixty_three_bits(self):
        self.assertEqual(gr_place(63, 0), [0, 0])
        self.assertEqual(gr_place(63, 1), [0, 1])
        self.assertEqual(gr_place(63, 4611686018427387904), [0, 9223372036854775807])
        self.assertEqual(gr_place(63, 9223372036854775807), [0, 6148914691236517205])
        self.assertEqual(gr_place(63, 9223372036854775808), [-3])
        self.assertEqual(gr_place(63, 9223372036854775809), [-3])
        self.assertEqual(gr_place(63, 18446744073709551615), [-3])

    def test_edges_of_every_row(self):
        for n in range(1, 64):
            self.assertEqual(gr_place(n, 0), [0, 0], n)
            self.assertEqual(gr_place(n, 1), [0, 1], n)
            self.assertEqual(gr_place(n, 2 ** (n - 1)), [0, 2 ** n - 1], n)
            # From the highest bit downwards the bits of the place are by turns 1 and 0.
            self.assertEqual(gr_place(n, 2 ** n - 1), [0, int(("10" * n)[:n], 2)], n)
            for word in (2 ** n, 2 ** n + 1, 2 ** (n + 1) - 1, 2 ** 63, LARGEST_WORD - 1, LARGEST_WORD):
                self.assertEqual(gr_place(n, word), [-3], (n, word))


class WordPlaceRefusals(unittest.TestCase):
    def test_n_out_of_range(self):
        for n in WRONG_N:
            self.assertEqual(gr_place(n, 0), [-2], n)
            self.assertEqual(gr_place(n, 1), [-2], n)

    def test_n_is_refused_before_the_word(self):
        for n in WRONG_N:
            for word in (2 ** 63, 2 ** 63 + 1, LARGEST_WORD):
                self.assertEqual(gr_place(n, word), [-2], (n, word))


class WordPlaceAnswers(unittest.TestCase):
    def test_whole_numbers_in_a_list(self):
        for n, word, length in ((1, 0, 2), (1, 1, 2), (63, 2 ** 63 - 1, 2), (63, 2 ** 63, 1), (0, 0, 1)):
            answer = gr_place(n, word)
            self.assertTrue(is_list_of_whole_numbers(answer), (n, word))
            self.assertEqual(len(answer), length, (n, word))

    def test_same_call_twice(self):
        for n, word in ((5, 25), (63, 2 ** 63 - 1), (5, 32), (64, 0)):
            first = gr_place(n, word)
            kept = list(first)
            first.append(99)
            first[0] = 98
            gr_place(6, 33)
            gr_digit_place(3, 4, [1, 2, 0, 1])
            gr_word(5, 17)
            gr_digits(3, 4, 50)
            gr_set(6, 3, 11)
            gr_order(6, 500)
            self.assertEqual(gr_place(n, word), kept, (n, word))

    def test_arguments_by_name(self):
        self.assertEqual(gr_place(n=4, word=13), [0, 9])


if __name__ == "__main__":
    unittest.main()
